import Derived.Test.YtibcepokeaaoiabDoorJe
import Derived.Lib.Bytealg
import Derived.Great.BuildSlice
import Derived.Great.FillDense
import Derived.Maps.AppendAt
import Derived.Laws.MakeOwn
import Derived.Test.YtibcepokeaaoiabDoorSlay
namespace Go.Proofs.YtibcepokeaaoiabDoor
section
open Go.RowKit Go
/-- How the one key stands to the other, by its sign. -/
def agn (s t : ByteArray) : Int := if s.size = t.size then Lib.compareBytes s.data.toList t.data.toList else if s.size < t.size then -1 else 1
theorem cmpB_blt : ∀ (x y : List UInt8), x.length = y.length → (Lib.compareBytes x y < 0 ↔ blt (x.map UInt8.toNat) (y.map UInt8.toNat) = true)
  | [], [], _ => by simp [Lib.compareBytes, blt]
  | [], _ :: _, h => by simp at h
  | _ :: _, [], h => by simp at h
  | a :: x, b :: y, h => by
    have ih := cmpB_blt x y (by simpa using h)
    simp only [Lib.compareBytes, List.map_cons, blt]
    by_cases h1 : a < b
    · have h2 : a.toNat < b.toNat := h1
      rw [if_pos h1, if_neg (by omega)]
      simp [h2]
    · rw [if_neg h1]
      by_cases h2 : b < a
      · have h3 : b.toNat < a.toNat := h2
        rw [if_pos h2, if_neg (by omega)]
        simp
        omega
      · have h3 : a.toNat = b.toNat := by
          have e1 : ¬ a.toNat < b.toNat := h1
          have e2 : ¬ b.toNat < a.toNat := h2
          omega
        rw [if_neg h2, if_pos h3]
        exact ih
theorem cmpB_eq : ∀ (x y : List UInt8), Lib.compareBytes x y = 0 ↔ x = y
  | [], [] => by simp [Lib.compareBytes]
  | [], _ :: _ => by simp [Lib.compareBytes]
  | _ :: _, [] => by simp [Lib.compareBytes]
  | a :: x, b :: y => by
    have ih := cmpB_eq x y
    simp only [Lib.compareBytes]
    by_cases h1 : a < b
    · rw [if_pos h1]
      simp
      intro e
      subst e
      exact absurd h1 (by simp)
    · rw [if_neg h1]
      by_cases h2 : b < a
      · rw [if_pos h2]
        simp
        intro e
        subst e
        exact absurd h2 (by simp)
      · rw [if_neg h2, ih]
        have h3 : a = b := by
          have e1 : ¬ a.toNat < b.toNat := h1
          have e2 : ¬ b.toNat < a.toNat := h2
          exact UInt8.toNat_inj.1 (by omega)
        simp [h3]
theorem agn_bfr (s t : ByteArray) : agn s t < 0 ↔ bfr (sl s) (sl t) = true := by
  unfold agn bfr
  rw [sl_len, sl_len]
  by_cases h : s.size = t.size
  · rw [if_pos h, if_pos h]
    exact cmpB_blt _ _ (by rw [Array.length_toList, Array.length_toList]; exact h)
  · rw [if_neg h, if_neg h]
    by_cases h2 : s.size < t.size <;> simp [h2]
theorem agn_eq (s t : ByteArray) : agn s t = 0 ↔ s = t := by
  unfold agn
  by_cases h : s.size = t.size
  · rw [if_pos h, cmpB_eq]
    constructor
    · intro e
      cases s
      cases t
      congr
      exact Array.toList_inj.1 e
    · intro e
      rw [e]
  · rw [if_neg h]
    constructor
    · intro e
      by_cases h2 : s.size < t.size <;> simp [h2] at e
    · intro e
      rw [e] at h
      exact absurd rfl h
theorem cmpB_bound : ∀ (x y : List UInt8), -1 ≤ Lib.compareBytes x y ∧ Lib.compareBytes x y ≤ 1
  | [], [] => by simp [Lib.compareBytes]
  | [], _ :: _ => by simp [Lib.compareBytes]
  | _ :: _, [] => by simp [Lib.compareBytes]
  | a :: x, b :: y => by
    have ih := cmpB_bound x y
    simp only [Lib.compareBytes]
    by_cases h1 : a < b
    · rw [if_pos h1]; omega
    · rw [if_neg h1]
      by_cases h2 : b < a
      · rw [if_pos h2]; omega
      · rw [if_neg h2]; exact ih
theorem agn_bound (s t : ByteArray) : -1 ≤ agn s t ∧ agn s t ≤ 1 := by
  unfold agn
  by_cases h : s.size = t.size
  · rw [if_pos h]
    exact cmpB_bound _ _
  · rw [if_neg h]
    by_cases h2 : s.size < t.size
    · rw [if_pos h2]; omega
    · rw [if_neg h2]; omega
set_option maxRecDepth 1000000 in
theorem cmpString_any (a b : ByteArray) (w : World) : Calls Tryd.prog 62 #[.string a, .string b] w fun e w' => e = .returned (.int .i64 (Lib.compareBytes a.data.toList b.data.toList)) ∧ w' = w := by
  go_enter Tryd.func62, Tryd.ntmps62
  go_wp2
  rw [run_callFunc_extern Tryd.func75 (by kernel_rfl) (by kernel_rfl) (by kernel_rfl) (e := Extern.BytealgCompare.compare) (by kernel_rfl), Lib.run_compareString]
  simp only [Result.andThen]
  rw [Oper.upon_value]
  go_wp2
  go_ret
  exact ⟨rfl, rfl⟩
set_option maxRecDepth 1000000 in
theorem strCompare_any (a b : ByteArray) (w : World) : Calls Tryd.prog 52 #[.string a, .string b] w fun e w' => e = .returned (.int .i64 (Lib.compareBytes a.data.toList b.data.toList)) ∧ w' = w := by
  go_enter Tryd.func52, Tryd.ntmps52
  go_wp2_with (go_at_call 62; refine (cmpString_any _ _ _).mono ?_; rintro e w' ⟨rfl, rfl⟩)
  go_ret
  exact ⟨rfl, rfl⟩
set_option maxRecDepth 1000000 in
theorem isNaN_any (x : Int) (w : World) : Calls Tryd.prog 61 #[.int .i64 x] w fun e w' => e = .returned (.bool false) ∧ w' = w := by
  have g0 : (x != x) = false := by simp
  go_enter Tryd.func61, Tryd.ntmps61
  go_wp2_with fail
  go_ret
  exact ⟨rfl, rfl⟩
set_option maxRecDepth 1000000 in
theorem cmpInt_any (x y : Int) (w : World) (h : x ≠ y) : Calls Tryd.prog 51 #[.int .i64 x, .int .i64 y] w fun e w' => e = .returned (.int .i64 (if x < y then -1 else 1)) ∧ w' = w := by
  go_enter Tryd.func51, Tryd.ntmps51
  by_cases hlt : x < y
  · rw [if_pos hlt]
    go_wp2_with (go_at_call 61; refine (isNaN_any _ _).mono ?_; rintro e w' ⟨rfl, rfl⟩)
    go_ret
    exact ⟨rfl, rfl⟩
  · have h2 : y < x := by omega
    rw [if_neg hlt]
    go_wp2_with (go_at_call 61; refine (isNaN_any _ _).mono ?_; rintro e w' ⟨rfl, rfl⟩)
    go_ret
    exact ⟨rfl, rfl⟩
set_option maxRecDepth 1000000 in
theorem against_any (s t : ByteArray) (w : World) : Calls Tryd.prog 41 #[.string s, .string t] w fun e w' => e = .returned (.int .i64 (agn s t)) ∧ w' = w := by
  unfold agn
  go_enter Tryd.func41, Tryd.ntmps41
  by_cases h : s.size = t.size
  · rw [if_pos h]
    have g0 : ((s.size : Int) != (t.size : Int)) = false := by rw [nat_ne]; simp [h]
    clear h
    go_wp2_with (go_at_call 52; refine (strCompare_any _ _ _).mono ?_; rintro e w' ⟨rfl, rfl⟩)
    go_ret
    exact ⟨rfl, rfl⟩
  · rw [if_neg h]
    have g0 : ((s.size : Int) != (t.size : Int)) = true := by rw [nat_ne]; simp [h]
    have HC := hide (cmpInt_any (s.size : Int) (t.size : Int) w (by omega))
    have HE : Hid ((if (s.size : Int) < (t.size : Int) then (-1 : Int) else 1) = if s.size < t.size then -1 else 1) := by
      show _ = _
      by_cases h2 : s.size < t.size
      · rw [if_pos h2, if_pos (by omega)]
      · rw [if_neg h2, if_neg (by omega)]
    rw [HE.out] at HC
    clear h HE
    generalize (if s.size < t.size then (-1 : Int) else 1) = R at *
    go_wp2_with (go_at_call 51; refine HC.out.mono ?_; rintro e w' ⟨rfl, rfl⟩)
    go_ret
    exact ⟨rfl, rfl⟩
set_option maxRecDepth 1000000 in
theorem before_any (s t : ByteArray) (w : World) : Calls Tryd.prog 23 #[.string s, .string t] w fun e w' => e = .returned (.bool (bfr (sl s) (sl t))) ∧ w' = w := by
  have HA := hide (against_any s t w)
  have HE : Hid (decide (agn s t < 0) = bfr (sl s) (sl t)) := by
    show _ = _
    rw [Bool.eq_iff_iff, decide_eq_true_iff]
    exact agn_bfr s t
  go_enter Tryd.func23, Tryd.ntmps23
  go_wp2_with (go_at_call 41; refine HA.out.mono ?_; rintro e w' ⟨rfl, rfl⟩)
  go_ret
  exact ⟨by rw [← HE.out]; rfl, rfl⟩
end
section
open Go.RowKit Go
/-- What Much tells. -/
structure Muc (is : List Tv) (most r : Nat) : Prop where
  le : r ≤ most + 1125899906842624
  eq : r ≤ most → r = tmuchL is
  gt : most < r → most < tmuchL is
theorem sum_take_le : ∀ (l : List Nat) (k : Nat), (l.take k).sum ≤ l.sum
  | [], k => by simp
  | x :: l, 0 => by simp
  | x :: l, k + 1 => by
    have := sum_take_le l k
    simp only [List.take_succ_cons, List.sum_cons]
    omega
theorem sum_take_succ (l : List Nat) (k : Nat) (h : k < l.length) : (l.take (k + 1)).sum = (l.take k).sum + l.getD k 0 := by
  rw [List.take_succ_eq_append_getElem h, List.sum_append, List.getD_eq_getElem?_getD, List.getElem?_eq_getElem h]
  simp
theorem tmuchL_take_le (l : List Tv) (i : Nat) : tmuchL (l.take i) ≤ tmuchL l := by
  have h := tmuchL_app (l.take i) (l.drop i)
  rw [List.take_append_drop] at h
  omega
set_option maxRecDepth 1000000 in
set_option maxHeartbeats 2000000 in
theorem much_step (N : Nat) (ih : ∀ is : List Tv, SizeOf.sizeOf is < N → ∀ (w : World) (v : Value) (most : Nat), VSl w v is → most ≤ 100000 → Calls Tryd.prog 5 #[v, .int .i64 (most : Nat)] w fun e w' => ∃ r : Nat, e = .returned (.int .i64 (r : Nat)) ∧ Muc is most r ∧ Below w.heap.size w w')
    (is : List Tv) (hN : SizeOf.sizeOf is = N) (w : World) (v : Value) (most : Nat) (hv : VSl w v is) (hm : most ≤ 100000) : Calls Tryd.prog 5 #[v, .int .i64 (most : Nat)] w fun e w' => ∃ r : Nat, e = .returned (.int .i64 (r : Nat)) ∧ Muc is most r ∧ Below w.heap.size w w' := by
  have HIH := hide ih
  have HNN := hide hN
  obtain ⟨⟨a, cap, rfl, hcap, hform⟩, hmax⟩ := hv
  have HF := hide hform
  clear ih hN hcap hform
  go_enter Tryd.func5, Tryd.ntmps5
  go_wp2_with fail
  go_loopw [5, 6] (fun nn ii wx => ∃ i n : Nat, i ≤ is.length ∧ nn = .int .i64 (n : Nat) ∧ ii = .int .i64 (i : Nat) ∧ Hid (Muc (is.take i) most n) ∧ Hid (Below w.heap.size w wx)) (fun _ ii _ => is.length - (intOf ii).toNat)
  case atStart => exact ⟨0, 0, by omega, rfl, rfl, ⟨by omega, fun _ => by simp [tmuchL], fun h => by omega⟩, Below.refl _ _⟩
  case round =>
    obtain ⟨i, n, hi, rfl, rfl, HM, HBw⟩ := hrel
    by_cases hlt : i < is.length
    · have g1 : (i : Int) < (is.length : Int) := by omega
      by_cases hle : n ≤ most
      · have g2 : (n : Int) ≤ (most : Int) := by omega
        obtain ⟨u, hu⟩ : ∃ u, is[i]? = some u := ⟨is[i], List.getElem?_eq_getElem hlt⟩
        obtain ⟨b, off, rfl, hcells⟩ := HF.out.resolve_left (fun h => by rw [h] at hlt; simp at hlt)
        obtain ⟨cu, hcu, hcc⟩ := hcells i u hu
        have HU := hide hcu
        obtain ⟨vy, vk, vi, rfl, hy, hk, hv, hbd⟩ := hcu.parts
        have HTK := hide (takeT _ _ _ hu)
        have HME := hide (tmuch_eq u)
        have HMT : Hid (tmuchL (is.take (i + 1)) = n + tmuch u) := by
          show _ = _
          rw [HTK.out, tmuchL_app, ← HM.out.eq hle]
          simp [tmuchL]
        have hmem := List.mem_of_getElem? hu
        have HLT : Hid (SizeOf.sizeOf u.is < N) := by
          show _ < _
          rw [← HNN.out]
          have h1 := List.sizeOf_lt_of_mem hmem
          obtain ⟨k, f, g, n, b, s, y, l, ks, is'⟩ := u
          simp only [Tv.is, Tv.mk.sizeOf_spec] at h1 ⊢
          omega
        have HVI := hide hv
        have HKS := hide hk
        obtain ⟨⟨ay, cy, rfl, _, _⟩, _, _⟩ := hy
        obtain ⟨⟨ak, ck, rfl, _, hkform⟩, hkmax, hksize⟩ := hk
        obtain ⟨⟨ai, ci, rfl, _, _⟩, _⟩ := hv
        have HKF := hide hkform
        have HCX : Hid (∀ wx, Below w.heap.size w wx → wx.cell? ⟨b, off + i * 13 + 11, none⟩ = some (.slice ak u.ks.length ck) ∧ wx.cell? ⟨b, off + i * 13 + 6, none⟩ = some (.slice ay u.y.length cy) ∧ wx.cell? ⟨b, off + i * 13 + 5, none⟩ = some (.string u.s) ∧ wx.cell? ⟨b, off + i * 13 + 10, none⟩ = some (.string (nstr u.l.d)) ∧ wx.cell? ⟨b, off + i * 13 + 12, none⟩ = some (.slice ai u.is.length ci)) := fun wx hb => ⟨keep_below hb _ _ (hcc 11 _ rfl), keep_below hb _ _ (hcc 6 _ rfl), keep_below hb _ _ (hcc 5 _ rfl), keep_below hb _ _ (hcc 10 _ rfl), keep_below hb _ _ (hcc 12 _ rfl)⟩
        have hds : (nstr u.l.d).size = u.l.d.length := nstr_size hbd.l.d
        have hbs := hbd.s
        have hby := hbd.y
        have hbl := hbd.d
        obtain ⟨c11, c6, c5, c10, _⟩ := HCX.out _ HBw.out
        clear hcells hcc hu hcu hbd hkform hmem HTK
        have ey : (u.y.length : Int) / 64 = ((u.y.length / 64 : Nat) : Int) := by omega
        have es : (u.s.size : Int) / 64 = ((u.s.size / 64 : Nat) : Int) := by omega
        have ed : (u.l.d.length : Int) / 64 = ((u.l.d.length / 64 : Nat) : Int) := by omega
        have hqy : u.y.length / 64 ≤ 2199023255552 := by omega
        have hqs : u.s.size / 64 ≤ 2199023255552 := by omega
        have hqd : u.l.d.length / 64 ≤ 2199023255552 := by omega
        generalize hqy' : u.y.length / 64 = qy at *
        generalize hqs' : u.s.size / 64 = qs at *
        generalize hqd' : u.l.d.length / 64 = qd at *
        clear hqy' hqs' hqd'
        go_wp2_with fail
        go_region
        go_wp2_with fail
        have HB1 : Hid (Below w.heap.size w wr.drew) := HBw.out.drew
        have HSL : Hid ((u.ks.map fun k => k.size / 64).length = u.ks.length) := List.length_map ..
        have HSS : Hid (∀ k s, u.ks[k]? = some s → (u.ks.map fun k => k.size / 64).getD k 0 = s.size / 64) := fun k s h => by
          rw [List.getD_eq_getElem?_getD, List.getElem?_map, h]
          rfl
        generalize (u.ks.map fun k => k.size / 64) = zs at *
        clear c11 c6 c5 c10 HBw hds ey es ed
        have hn1 : (n : Int) + 1 + (u.ks.length : Int) + (qy : Int) + (qs : Int) + (qd : Int) = ((n + 1 + u.ks.length + qy + qs + qd : Nat) : Int) := by omega
        rw [hn1]
        have hN1b : n + 1 + u.ks.length + qy + qs + qd ≤ most + 562949953421312 := by omega
        have HN1 : Hid (n + 1 + u.ks.length + qy + qs + qd = n + tmuch u - zs.sum - tmuchL u.is ∧ zs.sum + tmuchL u.is ≤ tmuch u) := by
          have := HME.out
          exact ⟨by omega, by omega⟩
        clear hn1
        generalize n + 1 + u.ks.length + qy + qs + qd = N1 at *
        go_loopw [5, 7] (fun nn kk wx => ∃ k m : Nat, k ≤ u.ks.length ∧ m ≤ most + 562949953421312 ∧ nn = .int .i64 (m : Nat) ∧ kk = .int .i64 (k : Nat) ∧ Hid (m = N1 + (zs.take k).sum) ∧ Hid (Below w.heap.size w wx)) (fun _ kk _ => u.ks.length - (intOf kk).toNat)
        case atStart => exact ⟨0, N1, by omega, hN1b, rfl, rfl, by show _ = _; simp, HB1⟩
        case round => as_aux_lemma =>
          rename World => wz
          obtain ⟨k, m, hk, hmb, rfl, rfl, HMS, HBz⟩ := hrel
          clear HB1
          obtain ⟨c11, _, _, _, c12⟩ := HCX.out _ HBz.out
          have HEND : Hid ((k = u.ks.length ∨ most < m) → ∃ wy : World, wy = wz) := fun _ => ⟨wz, rfl⟩
          clear HEND
          by_cases hkl : k < u.ks.length
          · have g3 : (k : Int) < (u.ks.length : Int) := by omega
            by_cases hml : m ≤ most
            · have g4 : (m : Int) ≤ (most : Int) := by omega
              obtain ⟨s, hs⟩ : ∃ s, u.ks[k]? = some s := ⟨u.ks[k], List.getElem?_eq_getElem hkl⟩
              obtain ⟨bk, ok, rfl, hkc⟩ := HKF.out.resolve_left (fun h => by rw [h] at hkl; simp at hkl)
              have ck := keep_below HBz.out _ _ (hkc k s hs)
              have hss := hksize s (List.mem_of_getElem? hs)
              have HSU : Hid ((zs.take (k + 1)).sum = (zs.take k).sum + s.size / 64) := by
                show _ = _
                rw [sum_take_succ zs k (by rw [HSL.out]; exact hkl), HSS.out k s hs]
              have eq : (s.size : Int) / 64 = ((s.size / 64 : Nat) : Int) := by omega
              have hqb : s.size / 64 ≤ 2199023255552 := by omega
              clear hs hkc hksize
              generalize s.size / 64 = q at *
              have HM2 : Hid (m + q = N1 + (zs.take (k + 1)).sum) := by have := HMS.out; have := HSU.out; show _ = _; omega
              go_wp2_with fail
              go_roundw
              case rel => exact ⟨k + 1, m + q, by omega, by omega, by go_num, by go_num, HM2, HBz⟩
              case measure => simp [intOf]; omega
            · have g4 : ¬ (m : Int) ≤ (most : Int) := by omega
              have HMU : Hid (Muc (is.take (i + 1)) most m) := by
                have h1 := HMS.out
                have h2 := HN1.out
                have h3 := HMT.out
                have h4 := sum_take_le zs k
                exact ⟨by omega, fun h => by omega, fun _ => by omega⟩
              go_wp2_with fail
              go_roundw
              case rel => exact ⟨i + 1, m, by omega, rfl, by go_num, HMU, HBz⟩
              case measure => simp [intOf]; omega
          · have g3 : ¬ (k : Int) < (u.ks.length : Int) := by omega
            have HFU : Hid (m = N1 + zs.sum) := by
              have h := HMS.out
              rw [List.take_of_length_le (by rw [HSL.out]; omega)] at h
              exact h
            by_cases hml : m ≤ most
            · have g4 : (m : Int) ≤ (most : Int) := by omega
              have e1 : (most : Int) - (m : Int) = ((most - m : Nat) : Int) := by omega
              have HCA := hide (HIH.out u.is HLT.out wz _ (most - m) (HVI.out.move (keep_below HBz.out)) (by omega))
              have HSUM : Hid (∀ r, Muc u.is (most - m) r → Muc (is.take (i + 1)) most (m + r)) := fun r hr => by
                have h1 := HFU.out
                have h2 := HN1.out
                have h3 := HMT.out
                have h4 := hr.le
                have h5 := hr.eq
                have h6 := hr.gt
                exact ⟨by omega, fun h => by have := h5 (by omega); omega, fun h => by have := h6 (by omega); omega⟩
              have HRL : Hid (∀ r, Muc u.is (most - m) r → r ≤ 1125899906942624) := fun r hr => by have := hr.le; show _ ≤ _; omega
              generalize most - m = rest at *
              go_wp2_with fail
              refine HCA.out.mono ?_
              rintro e w5 ⟨r, rfl, hmu, hb5⟩
              have HB5 : Hid (Below w.heap.size w w5) := HBz.out.trans (hb5.mono HBz.out.size)
              have HM5 := hide (HSUM.out r hmu)
              have hr5 := HRL.out r hmu
              clear hb5 hmu HCA HSUM HRL
              go_wp2_with fail
              go_roundw
              case rel => exact ⟨i + 1, m + r, by omega, by go_num, by go_num, HM5, HB5⟩
              case measure => simp [intOf]; omega
            · have g4 : ¬ (m : Int) ≤ (most : Int) := by omega
              have HMU : Hid (Muc (is.take (i + 1)) most m) := by
                have h1 := HFU.out
                have h2 := HN1.out
                have h3 := HMT.out
                exact ⟨by omega, fun h => by omega, fun _ => by omega⟩
              go_wp2_with fail
              go_roundw
              case rel => exact ⟨i + 1, m, by omega, rfl, by go_num, HMU, HBz⟩
              case measure => simp [intOf]; omega
      · as_aux_lemma =>
        have g2 : ¬ (n : Int) ≤ (most : Int) := by omega
        have HMU : Hid (Muc is most n) := by
          have h1 := HM.out.le
          have h2 := HM.out.gt
          have h3 := tmuchL_take_le is i
          exact ⟨by omega, fun h => by omega, fun h => by have := h2 h; omega⟩
        go_wp2_with fail
        go_ret
        exact ⟨n, rfl, HMU.out, HBw.out⟩
    · as_aux_lemma =>
      have g1 : ¬ (i : Int) < (is.length : Int) := by omega
      have HMU : Hid (Muc is most n) := by
        have h := HM.out
        rw [List.take_of_length_le (by omega)] at h
        exact h
      go_wp2_with fail
      go_ret
      exact ⟨n, rfl, HMU.out, HBw.out⟩
theorem much_any (is : List Tv) (w : World) (v : Value) (most : Nat) (hv : VSl w v is) (hm : most ≤ 100000) : Calls Tryd.prog 5 #[v, .int .i64 (most : Nat)] w fun e w' => ∃ r : Nat, e = .returned (.int .i64 (r : Nat)) ∧ Muc is most r ∧ Below w.heap.size w w' := by
  have h : ∀ N, ∀ is : List Tv, SizeOf.sizeOf is = N → ∀ (w : World) (v : Value) (most : Nat), VSl w v is → most ≤ 100000 → Calls Tryd.prog 5 #[v, .int .i64 (most : Nat)] w fun e w' => ∃ r : Nat, e = .returned (.int .i64 (r : Nat)) ∧ Muc is most r ∧ Below w.heap.size w w' := by
    intro N
    induction N using Nat.strongRecOn with
    | _ N ih => exact fun is hN w v most hv hm => much_step N (fun u hu => ih _ hu u rfl) is hN w v most hv hm
  exact h _ is rfl w v most hv hm
end
section
open Go.RowKit Go
/-- Texts as cells. -/
def sv (ks : List ByteArray) : List Value := ks.map fun s => .string s
theorem sv_len (ks : List ByteArray) : (sv ks).length = ks.length := by simp [sv]
theorem sv_app (a b : List ByteArray) : sv (a ++ b) = sv a ++ sv b := by simp [sv]
theorem sv_get {ks : List ByteArray} {j : Nat} {s : ByteArray} (h : ks[j]? = some s) : (sv ks)[j]? = some (.string s) := by simp [sv, h]
theorem sv_one (ks : List ByteArray) : ∀ u ∈ sv ks, u.oneCell' = true := by
  intro u hu
  simp only [sv, List.mem_map] at hu
  obtain ⟨_, _, rfl⟩ := hu
  rfl
theorem info9_ex : ∃ i, Tryd.prog.info? 9 = some i ∧ i.zero = some (.string ⟨#[]⟩) ∧ i.size = 1 ∧ i.bytes = 16 := by
  have h : (Tryd.prog.info? 9).map (fun i => (i.zero, i.size, i.bytes)) = some (some (.string ⟨#[]⟩), 1, 16) := by kernel_rfl
  cases hi : Tryd.prog.info? 9 with
  | none => rw [hi] at h; cases h
  | some i =>
    rw [hi] at h
    injection h with h
    injection h with h1 h2
    injection h2 with h2 h3
    exact ⟨i, rfl, h1, h2, h3⟩
set_option maxRecDepth 1000000 in
/-- 'append(l, x...)' of texts. -/
theorem append_ssl {ops : Array Oper} {rest : List Oper} {o : Oper} {a : Act} {Q : Exit → Act → World → Prop} {w : World} (hgd : o.guard = none) (s x : Operand)
    (ho : o.op = .call { callee := .builtin .append, args := #[s, x], argTypes := #[26, 26] }) (B : Nat) (v : Value) (n : Nat) (ds : List ByteArray) (hs : a.eval s = v) (hown : w.ownsRow B 9 1 v n (sv ds))
    (u : Value) (es : List ByteArray) (hx : a.eval x = u) (hu : SSl w u es) (hlen : n + es.length < 1099511627776) (hbase : B ≤ w.heap.size)
    (h : ∀ v' w', w'.ownsRow B 9 1 v' (n + es.length) (sv (ds ++ es)) → w.grownBy w' v.ownBlock → wpList Tryd.prog ops Q rest (a.put o.dst v') w') : wpList Tryd.prog ops Q (o :: rest) a w := by
  obtain ⟨i, hi, hz0, hz1, hz2⟩ := info9_ex
  obtain ⟨⟨ad, cap, rfl, hn, hc⟩, hmax, _⟩ := hu
  cases ad with
  | none =>
    have hc0 := hn.2 rfl
    have he : es = [] := List.length_eq_zero_iff.1 (by omega)
    subst hc0
    subst he
    refine wpList_append_own_none hgd s x 26 ho B 9 i 1 Tryd.underlying26 hi v n (sv ds) hs hown hx (h v w ?_ ⟨rfl, rfl, rfl, Nat.le_refl _, fun _ _ _ => rfl⟩)
    simpa using hown
  | some ad =>
    refine wpList_append_own_at w hgd s x 26 ho B 9 i (.string ⟨#[]⟩) 1 16 Tryd.underlying26 hi hz0 hz1 hz2 rfl (by decide) v n (sv ds) hs hown ad es.length cap (sv es) hx (by rw [sv_len, Nat.mul_one]) (fun j u hu => ?_) (sv_one es) (by unfold maxLen; omega) (by omega) hbase fun v' w' h1 h2 _ _ => h v' w' (by rw [sv_app]; exact h1) h2
    have hjl : j < es.length := by
      rcases Nat.lt_or_ge j es.length with h | h
      · exact h
      · rw [List.getElem?_eq_none (by rw [sv_len]; exact h)] at hu
        cases hu
    rcases hc with hc | ⟨b, off, e, hc⟩
    · rw [hc] at hjl
      simp at hjl
    · injection e with e
      subst e
      rw [sv_get (List.getElem?_eq_getElem hjl)] at hu
      injection hu with hu
      rw [addr_add, hc j _ (List.getElem?_eq_getElem hjl), hu]
/-- One text, fresh. -/
theorem one_ssl (w : World) (s : ByteArray) (hs : s.size ≤ 140737488351232) : SSl (w.alloc (.cells #[.string s] 9)) (.slice (some ⟨w.heap.size, 0, none⟩) 1 1) [s] := by
  refine ⟨⟨_, 1, rfl, ⟨by simp, fun h => by cases h⟩, .inr ⟨w.heap.size, 0, rfl, fun j t hj => ?_⟩⟩, by simp, by simpa using hs⟩
  match j, hj with
  | 0, hj =>
    simp at hj
    subst hj
    exact blk_cell (heap_alloc_new w _) rfl
  | j + 1, hj => simp at hj
def mk9 : ByteArray := ⟨#[109, 97, 114, 107]⟩
/-- Texts lent. -/
structure Lts (w : World) (base : Nat) (v : Value) (ks : List ByteArray) : Prop where
  own : ∃ g cap, v = .slice (some ⟨g, 0, none⟩) ks.length cap ∧ w.ownsRow base 9 1 (.slice (some ⟨g, 0, none⟩) (ks.length + 9) cap) (ks.length + 9) (sv (ks ++ List.replicate 9 mk9))
  len : ks.length ≤ 100000
  size : ∀ s ∈ ks, s.size ≤ 140737488351232
theorem Lts.below {w w' : World} {base : Nat} {v : Value} {ks : List ByteArray} (h : Lts w base v ks) (hb : Below w.heap.size w w') : Lts w' base v ks := by
  obtain ⟨⟨g, cap, hv, ho⟩, h1, h2⟩ := h
  exact ⟨⟨g, cap, hv, (Kp.of_below (S := fun _ => False) hb).owns ho (fun _ _ hf => hf)⟩, h1, h2⟩
end
section
open Go.RowKit Go
theorem Lts.cell {w : World} {base g cap : Nat} {ks : List ByteArray} (h : w.ownsRow base 9 1 (.slice (some ⟨g, 0, none⟩) (ks.length + 9) cap) (ks.length + 9) (sv (ks ++ List.replicate 9 mk9))) : (∀ j s, ks[j]? = some s → w.cell? ⟨g, j, none⟩ = some (.string s)) ∧ (∀ j, j < 9 → w.cell? ⟨g, ks.length + j, none⟩ = some (.string mk9)) ∧ ks.length + 9 ≤ cap := by
  refine ⟨fun j s hj => ?_, fun j hj => ?_, ?_⟩
  · refine (own_cell h (sv_get ?_)).1
    rw [List.getElem?_append_left (List.getElem?_eq_some_iff.1 hj).1]
    exact hj
  · refine (own_cell h (sv_get ?_)).1
    rw [List.getElem?_append_right (by omega), Nat.add_sub_cancel_left, List.getElem?_replicate_of_lt hj]
  · rcases h.2 with ⟨hv, _⟩ | ⟨g', cap', cur, hv, _, _, h1, _⟩
    · cases hv
    · injection hv with _ _ e
      subst e
      exact h1
theorem str_ne (s : ByteArray) : (s.toList != s.toList) = false := by simp
end
section
open Go.RowKit Go
/-- The cells of values in a row. -/
def vfl (l : List (Array Value)) : List Value := l.flatMap (·.toList)
theorem vfl_app (a b : List (Array Value)) : vfl (a ++ b) = vfl a ++ vfl b := by simp [vfl]
theorem vfl_len : ∀ {l : List (Array Value)}, (∀ c ∈ l, c.size = 13) → (vfl l).length = l.length * 13
  | [], _ => rfl
  | c :: l, h => by
    have h1 := vfl_len (l := l) (fun d hd => h d (List.mem_cons_of_mem _ hd))
    have h2 := h c (List.mem_cons_self ..)
    have e : vfl (c :: l) = c.toList ++ vfl l := by simp [vfl]
    rw [e, List.length_append, h1, List.length_cons, Array.length_toList, h2]
    omega
theorem vfl_get : ∀ {l : List (Array Value)}, (∀ c ∈ l, c.size = 13) → ∀ (k : Nat) (c : Array Value) (j : Nat) (u : Value), l[k]? = some c → c[j]? = some u → (vfl l)[k * 13 + j]? = some u
  | [], _, k, c, j, u, h, _ => by simp at h
  | d :: l, hs, 0, c, j, u, h, hu => by
    simp at h
    subst h
    have e : vfl (d :: l) = d.toList ++ vfl l := by simp [vfl]
    have hj : j < d.size := (Array.getElem?_eq_some_iff.1 hu).1
    rw [e, List.getElem?_append_left (by simpa using hj)]
    simpa using hu
  | d :: l, hs, k + 1, c, j, u, h, hu => by
    simp at h
    have e : vfl (d :: l) = d.toList ++ vfl l := by simp [vfl]
    have h13 : d.toList.length = 13 := by rw [Array.length_toList]; exact hs d (List.mem_cons_self ..)
    rw [e, List.getElem?_append_right (by omega)]
    have e2 : (k + 1) * 13 + j - d.toList.length = k * 13 + j := by omega
    rw [e2]
    exact vfl_get (fun d hd => hs d (List.mem_cons_of_mem _ hd)) k c j u h hu
/-- The zero value's cells, and those of a mark. -/
def zv : Array Value := #[.int .i64 0, .bool false, .bool false, .int .u64 0, .int .u64 0, .string ⟨#[]⟩, .slice none 0 0, .int .i64 0, .int .u64 0, .int .u64 0, .string ⟨#[]⟩, .slice none 0 0, .slice none 0 0]
def mv : Array Value := #[.int .i64 777, .bool false, .bool false, .int .u64 0, .int .u64 0, .string ⟨#[]⟩, .slice none 0 0, .int .i64 0, .int .u64 0, .int .u64 0, .string ⟨#[]⟩, .slice none 0 0, .slice none 0 0]
theorem infoV_ex : ∃ i, Tryd.prog.info? 29 = some i ∧ i.zero = some (.agg zv) ∧ i.size = 13 ∧ i.bytes = 160 := by
  have h : (Tryd.prog.info? 29).map (fun i => (i.zero, i.size, i.bytes)) = some (some (.agg zv), 13, 160) := by kernel_rfl
  cases hi : Tryd.prog.info? 29 with
  | none => rw [hi] at h; cases h
  | some i =>
    rw [hi] at h
    injection h with h
    injection h with h1 h2
    injection h2 with h2 h3
    exact ⟨i, rfl, h1, h2, h3⟩
/-- Cells that lie in a row of values: each one cell. -/
def one13 (c : Array Value) : Prop := c.size = 13 ∧ ∀ u ∈ c.toList, u.oneCell' = true
theorem fill_one (c cells : Array Value) (h : c.size = 13) (hc : cells.size = 13) : Instr.fill (fun i => some (i * 13, 13)) cells [(0, .agg c)] = some c := by
  obtain ⟨r, hr, hsz, hk⟩ := Great.fill_dense (s := 13) (by decide) [.agg c] 0 cells (by
    intro v hv
    simp only [List.mem_singleton] at hv
    subst hv
    simpa [Value.cells] using h) (by simp; omega)
  have e : r = c := by
    apply Array.ext_getElem?
    intro k
    rw [hk k]
    by_cases h1 : k < 13
    · rw [if_pos ⟨by omega, by simp; omega⟩]
      simp [Value.cells, Nat.div_eq_of_lt h1, Nat.mod_eq_of_lt h1]
    · rw [if_neg (by simp; omega), Array.getElem?_eq_none (by omega), Array.getElem?_eq_none (by omega)]
  rw [e] at hr
  exact hr
theorem wpList_val1 {ops : Array Oper} {rest : List Oper} {o : Oper} {a : Act} {w : World} {Q : Exit → Act → World → Prop} {x0 : Operand} (hg : o.guard = none) (ho : o.op = .buildSlice 27 1 #[(0, x0)]) (c : Array Value) (hc : c.size = 13)
    (h0 : a.eval x0 = .agg c)
    (h : wpList Tryd.prog ops Q rest (a.put o.dst (.slice (some ⟨w.heap.size, 0, none⟩) 1 1)) (w.alloc (.cells c 29))) : wpList Tryd.prog ops Q (o :: rest) a w := by
  obtain ⟨i, hi, hz, hs, _⟩ := infoV_ex
  refine wpList_buildSlice hg 27 29 1 _ ho c i _ Tryd.underlying27 hi hz (by rw [hs]; decide) (by rw [hs]; decide) ?_ h
  rw [hs]
  have e : ((#[(0, x0)] : Array (Nat × Operand)).map fun (i, x) => (i, a.eval x)).toList = [(0, .agg c)] := by simp [h0]
  rw [e]
  exact fill_one c _ hc (by simp)
/-- append of one value. -/
theorem append_val {ops : Array Oper} {rest : List Oper} {o : Oper} {a : Act} {Q : Exit → Act → World → Prop} {w : World} (hgd : o.guard = none) (s x : Operand)
    (ho : o.op = .call { callee := .builtin .append, args := #[s, x], argTypes := #[27, 27] }) (B : Nat) (v : Value) (n : Nat) (ds : List Value) (hs : a.eval s = v) (hown : w.ownsRow B 29 13 v n ds)
    (g : Nat) (c : Array Value) (h13 : one13 c) (hx : a.eval x = .slice (some ⟨g, 0, none⟩) 1 1) (hg : w.heap[g]? = some (.cells c 29 (0, 0))) (hlen : n < 1099511627) (hbase : B ≤ w.heap.size)
    (h : ∀ v' w', w'.ownsRow B 29 13 v' (n + 1) (ds ++ c.toList) → w.grownBy w' v.ownBlock → (v'.ownBlock = v.ownBlock ∨ v'.ownBlock = some w.heap.size) → wpList Tryd.prog ops Q rest (a.put o.dst v') w') : wpList Tryd.prog ops Q (o :: rest) a w := by
  obtain ⟨i, hi, hz0, hz1, hz2⟩ := infoV_ex
  refine wpList_append_own_at w hgd s x 27 ho B 29 i _ 13 160 Tryd.underlying27 hi hz0 hz1 hz2 rfl (by decide) v n ds hs hown ⟨g, 0, none⟩ 1 1 c.toList hx (by rw [Array.length_toList, h13.1]) (fun j u hu => ?_) h13.2 (by unfold maxLen; omega) (by omega) hbase fun v' w' h1 h2 _ h4 => h v' w' h1 h2 ?_
  · have hadd : (⟨g, 0, none⟩ : Addr).add j = ⟨g, j, none⟩ := by unfold Addr.add; split <;> simp_all
    rw [hadd]
    exact blk_cell hg (by simpa using hu)
  · exact h4
/-- A value lent: each of its rows lies in blocks of its own from lo on and below hi, with marks behind it. -/
inductive Ltv (w : World) (lo hi : Nat) : Tv → Array Value → Prop
  | mk (t : Tv) (gy cy gk ck gi ci : Nat) (L : List (Array Value)) (hbd : Tbd t) (hy : Lnt w lo gy cy t.y) (hgy : gy < hi) (hk : w.ownsRow lo 9 1 (.slice (some ⟨gk, 0, none⟩) (t.ks.length + 9) ck) (t.ks.length + 9) (sv (t.ks ++ List.replicate 9 mk9))) (hgk : gk < hi) (hkl : t.ks.length ≤ 100000) (hks : ∀ s ∈ t.ks, s.size ≤ 140737488351232)
      (hv : w.ownsRow lo 29 13 (.slice (some ⟨gi, 0, none⟩) (t.is.length + 9) ci) (t.is.length + 9) (vfl (L ++ List.replicate 9 mv))) (hgi : gi < hi) (hil : t.is.length ≤ 100000) (hL : L.length = t.is.length) (h13 : ∀ c ∈ L, c.size = 13) (hcs : ∀ (i : Nat) (u : Tv) (c : Array Value), t.is[i]? = some u → L[i]? = some c → Ltv w lo hi u c) :
      Ltv w lo hi t (vcs t (.slice (some ⟨gy, 0, none⟩) t.y.length cy) (.slice (some ⟨gk, 0, none⟩) t.ks.length ck) (.slice (some ⟨gi, 0, none⟩) t.is.length ci))
theorem Ltv.size {w : World} {lo hi : Nat} {t : Tv} {c : Array Value} (h : Ltv w lo hi t c) : c.size = 13 := by
  cases h
  rfl
theorem Ltv.one {w : World} {lo hi : Nat} {t : Tv} {c : Array Value} (h : Ltv w lo hi t c) : one13 c := by
  cases h
  refine ⟨rfl, fun u hu => ?_⟩
  simp only [vcs, List.mem_cons, List.not_mem_nil, or_false] at hu
  rcases hu with rfl | rfl | rfl | rfl | rfl | rfl | rfl | rfl | rfl | rfl | rfl | rfl | rfl <;> rfl
theorem Lnt.mono {w : World} {b b' g cap : Nat} {xs : List Nat} (h : Lnt w b g cap xs) (hb : b' ≤ b) : Lnt w b' g cap xs := ⟨own_mono h.own hb, h.byte, h.len⟩
theorem Ltv.kp {w w' : World} {lo hi : Nat} {t : Tv} {c : Array Value} {S : Nat → Prop} (h : Ltv w lo hi t c) (hk : Kp S w w') (hs : ∀ q, lo ≤ q → q < hi → ¬ S q) : Ltv w' lo hi t c := by
  induction h with
  | mk t gy cy gk ck gi ci L hbd hy hgy hkk hgk hkl hks hv hgi hil hL h13 _ ih =>
    have e1 := (hy.own.lt gy rfl).1
    have e2 := (hkk.lt gk rfl).1
    have e3 := (hv.lt gi rfl).1
    exact Ltv.mk t gy cy gk ck gi ci L hbd (hy.kp hk (hs gy e1 hgy)) hgy (hk.owns hkk (fun q hq => by injection hq with hq; subst hq; exact hs _ e2 hgk)) hgk hkl hks (hk.owns hv (fun q hq => by injection hq with hq; subst hq; exact hs _ e3 hgi)) hgi hil hL h13 ih
theorem Ltv.kept {w w' : World} {lo hi : Nat} {t : Tv} {c : Array Value} (h : Ltv w lo hi t c) (hb : Below w.heap.size w w') : Ltv w' lo hi t c := h.kp (Kp.of_below (S := fun _ => False) hb) (fun _ _ _ h => h)
theorem Ltv.mono {w : World} {lo hi lo' hi' : Nat} {t : Tv} {c : Array Value} (h : Ltv w lo hi t c) (h1 : lo' ≤ lo) (h2 : hi ≤ hi') : Ltv w lo' hi' t c := by
  induction h with
  | mk t gy cy gk ck gi ci L hbd hy hgy hkk hgk hkl hks hv hgi hil hL h13 _ ih =>
    exact Ltv.mk t gy cy gk ck gi ci L hbd (hy.mono h1) (by omega) (own_mono hkk h1) (by omega) hkl hks (own_mono hv h1) (by omega) hil hL h13 ih
theorem ssl_lent {w : World} {lo g cap : Nat} {ks : List ByteArray} (h : w.ownsRow lo 9 1 (.slice (some ⟨g, 0, none⟩) (ks.length + 9) cap) (ks.length + 9) (sv (ks ++ List.replicate 9 mk9))) (hl : ks.length ≤ 100000) (hs : ∀ s ∈ ks, s.size ≤ 140737488351232) : SSl w (.slice (some ⟨g, 0, none⟩) ks.length cap) ks := by
  obtain ⟨h1, _, h3⟩ := Lts.cell h
  refine ⟨⟨_, cap, rfl, ⟨by omega, fun h => by cases h⟩, .inr ⟨g, 0, rfl, fun j s hj => ?_⟩⟩, by omega, hs⟩
  rw [Nat.zero_add]
  exact h1 j s hj
/-- A cell of a value in a row of the call's own. -/
theorem own_val {w : World} {B g n m cap k : Nat} {l : List (Array Value)} {c : Array Value} (h : w.ownsRow B 29 13 (.slice (some ⟨g, 0, none⟩) m cap) n (vfl l)) (hl : ∀ c ∈ l, c.size = 13) (hk : l[k]? = some c) : ∀ j u, c[j]? = some u → w.cell? ⟨g, k * 13 + j, none⟩ = some u := fun j u hu => by
  have := h.cells (g := g) rfl (k * 13 + j) u (vfl_get hl k c j u hk hu)
  have hadd : (⟨g, 0, none⟩ : Addr).add (k * 13 + j) = ⟨g, k * 13 + j, none⟩ := by unfold Addr.add; split <;> simp_all
  rw [hadd] at this
  exact this
theorem all13 {L : List (Array Value)} (h : ∀ c ∈ L, c.size = 13) (k : Nat) : ∀ c ∈ L ++ List.replicate k mv, c.size = 13 := fun c hc => by
  rcases List.mem_append.1 hc with hc | hc
  · exact h c hc
  · rw [List.eq_of_mem_replicate hc]
    rfl
theorem Ltv.tin {w : World} {lo hi : Nat} {t : Tv} {c : Array Value} (h : Ltv w lo hi t c) : Tin w t c := by
  induction h with
  | mk t gy cy gk ck gi ci L hbd hy hgy hkk hgk hkl hks hv hgi hil hL h13 _ ih =>
    refine Tin.of hy.bsl (ssl_lent hkk hkl hks) ⟨⟨_, ci, rfl, ⟨?_, fun h => by cases h⟩, .inr ⟨gi, 0, rfl, fun i u hu => ?_⟩⟩, by omega⟩ hbd
    · rcases hv.2 with ⟨e, _⟩ | ⟨g', cap', cur, e, _, _, h1, _⟩
      · cases e
      · injection e with _ _ e
        subst e
        omega
    · have hil2 := (List.getElem?_eq_some_iff.1 hu).1
      have hc : L[i]? = some (L[i]'(by omega)) := List.getElem?_eq_getElem (by omega)
      refine ⟨_, ih i u _ hu hc, fun j v hj => ?_⟩
      rw [Nat.zero_add]
      refine own_val hv (all13 h13 9) ?_ j v hj
      rw [List.getElem?_append_left (by omega)]
      exact hc
end
section
open Go.RowKit Go
/-- A row of texts that lies in blocks of its own reads as these texts, whatever became of the rest. -/
theorem SSl.own {w : World} {base n : Nat} {v : Value} {ks : List ByteArray} (h : w.ownsRow base 9 1 v n (sv ks)) (hn : n = ks.length) (hm : ks.length ≤ 140737488351232) (hs : ∀ s ∈ ks, s.size ≤ 140737488351232) : SSl w v ks := by
  subst hn
  rcases id h.2 with ⟨hv, he⟩ | ⟨g, cap, cur, hv, _, _, h1, _⟩
  · subst hv
    have e : ks = [] := List.length_eq_zero_iff.1 he
    subst e
    exact ⟨⟨none, 0, rfl, ⟨by simp, fun _ => rfl⟩, .inl rfl⟩, hm, hs⟩
  · subst hv
    refine ⟨⟨_, cap, rfl, ⟨by omega, fun h => by cases h⟩, .inr ⟨g, 0, rfl, fun j s hj => ?_⟩⟩, hm, hs⟩
    rw [Nat.zero_add]
    exact (own_cell h (sv_get hj)).1
set_option maxRecDepth 1000000 in
set_option maxHeartbeats 400000 in
theorem copyStrings_any (w : World) (v : Value) (ks : List ByteArray) (hsl : SSl w v ks) (hlen : ks.length < 1099511627776) :
    Calls Tryd.prog 38 #[v] w fun e w' => ∃ v', e = .returned v' ∧ w'.ownsRow w.heap.size 9 1 v' ks.length (sv ks) ∧ Below w.heap.size w w' := by
  have HSL := hide hsl
  have HL := hide hlen
  obtain ⟨⟨a, cap, rfl, hn, hc⟩, hmax, hb⟩ := hsl
  clear hn hc hb hlen
  go_enter Tryd.func38, Tryd.ntmps38
  go_wp2_with (at_builtin; refine append_ssl rfl _ _ rfl w.heap.size _ 0 [] rfl (World.ownsRow_nil _ _ _ _) _ ks rfl HSL.out ?b1 ?b2 ?_)
  case b1 => have := HL.out; omega
  case b2 => exact Nat.le_refl _
  intro v1 w1 ho1 hg1
  have hb1 : Below w.heap.size w w1 := (Below.refl _ _).grown hg1 (Nat.le_refl _) (fun q hq => by cases hq)
  have HO1 := hide ho1
  have HB1 := hide hb1
  clear ho1 hb1 hg1
  go_wp2
  go_ret
  exact ⟨_, rfl, by simpa using HO1.out, HB1.out⟩
end
section
open Go.RowKit Go
/-- A value in new memory: each of its rows lies in blocks of its own from lo on and below hi. -/
inductive Ntv (w : World) (lo hi : Nat) : Tv → Array Value → Prop
  | mk (t : Tv) (vy vk vi : Value) (L : List (Array Value)) (hbd : Tbd t) (hyb : ∀ x ∈ t.y, x < 256) (hy : w.ownsRow lo 5 1 vy t.y.length (bv t.y)) (hgy : ∀ q, vy.ownBlock = some q → q < hi) (hk : w.ownsRow lo 9 1 vk t.ks.length (sv t.ks)) (hgk : ∀ q, vk.ownBlock = some q → q < hi) (hkl : t.ks.length ≤ 140737488351232) (hks : ∀ s ∈ t.ks, s.size ≤ 140737488351232)
      (hv : w.ownsRow lo 29 13 vi t.is.length (vfl L)) (hgi : ∀ q, vi.ownBlock = some q → q < hi) (hil : t.is.length ≤ 140737488351232) (hL : L.length = t.is.length) (h13 : ∀ c ∈ L, c.size = 13) (hcs : ∀ (i : Nat) (u : Tv) (c : Array Value), t.is[i]? = some u → L[i]? = some c → Ntv w lo hi u c) :
      Ntv w lo hi t (vcs t vy vk vi)
theorem own_one1 {w : World} {B e s n : Nat} {v : Value} {xs : List Value} (h : w.ownsRow B e s v n xs) : v.oneCell' = true := by
  rcases h.2 with ⟨e, _⟩ | ⟨g, c, cur, e, _⟩ <;> (rw [e]; rfl)
theorem Ntv.size {w : World} {lo hi : Nat} {t : Tv} {c : Array Value} (h : Ntv w lo hi t c) : c.size = 13 := by
  cases h
  rfl
theorem Ntv.one {w : World} {lo hi : Nat} {t : Tv} {c : Array Value} (h : Ntv w lo hi t c) : one13 c := by
  cases h with
  | mk _ vy vk vi L hbd hyb hy hgy hk hgk hkl hks hv hgi hil hL h13 hcs =>
  refine ⟨rfl, fun u hu => ?_⟩
  simp only [vcs, List.mem_cons, List.not_mem_nil, or_false] at hu
  rcases hu with rfl | rfl | rfl | rfl | rfl | rfl | rfl | rfl | rfl | rfl | rfl | rfl | rfl <;> first | rfl | exact own_one1 hy | exact own_one1 hk | exact own_one1 hv
theorem Ntv.kp {w w' : World} {lo hi : Nat} {t : Tv} {c : Array Value} {S : Nat → Prop} (h : Ntv w lo hi t c) (hk : Kp S w w') (hs : ∀ q, lo ≤ q → q < hi → ¬ S q) : Ntv w' lo hi t c := by
  induction h with
  | mk t vy vk vi L hbd hyb hy hgy hkk hgk hkl hks hv hgi hil hL h13 _ ih =>
    exact Ntv.mk t vy vk vi L hbd hyb (hk.owns hy (fun q hq => hs q (hy.lt q hq).1 (hgy q hq))) hgy (hk.owns hkk (fun q hq => hs q (hkk.lt q hq).1 (hgk q hq))) hgk hkl hks (hk.owns hv (fun q hq => hs q (hv.lt q hq).1 (hgi q hq))) hgi hil hL h13 ih
theorem Ntv.kept {w w' : World} {lo hi : Nat} {t : Tv} {c : Array Value} (h : Ntv w lo hi t c) (hb : Below w.heap.size w w') : Ntv w' lo hi t c := h.kp (Kp.of_below (S := fun _ => False) hb) (fun _ _ _ h => h)
theorem Ntv.mono {w : World} {lo hi lo' hi' : Nat} {t : Tv} {c : Array Value} (h : Ntv w lo hi t c) (h1 : lo' ≤ lo) (h2 : hi ≤ hi') : Ntv w lo' hi' t c := by
  induction h with
  | mk t vy vk vi L hbd hyb hy hgy hkk hgk hkl hks hv hgi hil hL h13 _ ih =>
    exact Ntv.mk t vy vk vi L hbd hyb (own_mono hy h1) (fun q hq => Nat.lt_of_lt_of_le (hgy q hq) h2) (own_mono hkk h1) (fun q hq => Nat.lt_of_lt_of_le (hgk q hq) h2) hkl hks (own_mono hv h1) (fun q hq => Nat.lt_of_lt_of_le (hgi q hq) h2) hil hL h13 ih
theorem Ntv.tin {w : World} {lo hi : Nat} {t : Tv} {c : Array Value} (h : Ntv w lo hi t c) : Tin w t c := by
  induction h with
  | mk t vy vk vi L hbd hyb hy hgy hkk hgk hkl hks hv hgi hil hL h13 _ ih =>
    refine Tin.of (BSl.own hy hyb) (SSl.own hkk rfl hkl hks) ?_ hbd
    rcases id hv.2 with ⟨e, h0⟩ | ⟨g, cap, cur, e, _, _, h1, _⟩
    · subst e
      have e2 : t.is = [] := List.length_eq_zero_iff.1 h0
      refine ⟨⟨none, 0, by rw [h0], ⟨by omega, fun _ => rfl⟩, .inl e2⟩, hil⟩
    · subst e
      refine ⟨⟨_, cap, rfl, ⟨by omega, fun h => by cases h⟩, .inr ⟨g, 0, rfl, fun i u hu => ?_⟩⟩, hil⟩
      have hil2 := (List.getElem?_eq_some_iff.1 hu).1
      have hc : L[i]? = some (L[i]'(by omega)) := List.getElem?_eq_getElem (by omega)
      refine ⟨_, ih i u _ hu hc, fun j v hj => ?_⟩
      rw [Nat.zero_add]
      exact own_val hv h13 hc j v hj
end
section
open Go.RowKit Go
/-- Digits that the table tells. -/
def tells (t : List Nat) : Prop := ∀ c, c < 256 → (plt t t.length).getD c 0 = (match look t c with | some i => i + 1 | none => 0)
theorem tells16 : tells d16 := by unfold tells; decide +kernel
theorem tells32 : tells d32 := by unfold tells; decide +kernel
theorem tells58 : tells d58 := by unfold tells; decide +kernel
theorem looks_snoc (t : List Nat) : ∀ (s : List Nat) (c : Nat), looks t (s ++ [c]) = (looks t s).bind fun l => (look t c).map fun i => l ++ [i]
  | [], c => by
    simp only [List.nil_append, looks]
    cases look t c <;> rfl
  | x :: s, c => by
    simp only [List.cons_append, looks, looks_snoc t s c]
    cases look t x with
    | none => rfl
    | some i =>
      cases looks t s with
      | none => rfl
      | some l => cases look t c <;> rfl
theorem looks_len {t : List Nat} : ∀ {s l : List Nat}, looks t s = some l → l.length = s.length
  | [], l, h => by simp [looks] at h; subst h; rfl
  | x :: s, l, h => by
    unfold looks at h
    obtain ⟨i, _, h⟩ := Option.bind_eq_some_iff.1 h
    obtain ⟨m, hm, rfl⟩ := Option.map_eq_some_iff.1 h
    simp [looks_len hm]
theorem looks_none {t : List Nat} {s r : List Nat} (h : looks t s = none) : looks t (s ++ r) = none := by
  induction s with
  | nil => simp [looks] at h
  | cons x s ih =>
    unfold looks at h
    rw [List.cons_append, looks]
    cases hx : look t x with
    | none => rfl
    | some i =>
      rw [hx] at h
      simp only [Option.bind_some, Option.map_eq_none_iff] at h ⊢
      exact ih h
theorem bv_setL (l : List Nat) (i x : Nat) : (bv l).set i (.int .u8 ((x : Nat) : Int)) = bv (l.set i x) := by
  simp [bv, List.map_set]
theorem set_fill (ds : List Nat) (m x : Nat) (hm : 0 < m) : (ds ++ List.replicate m 0).set ds.length x = (ds ++ [x]) ++ List.replicate (m - 1) 0 := by
  obtain ⟨k, rfl⟩ : ∃ k, m = k + 1 := ⟨m - 1, by omega⟩
  rw [List.replicate_succ, List.set_append_right _ _ (Nat.le_refl _), Nat.sub_self, List.set_cons_zero]
  simp
theorem get_fill (ds : List Nat) (m : Nat) (hm : 0 < m) : (bv (ds ++ List.replicate m 0))[ds.length]? = some (.int .u8 0) := by
  obtain ⟨k, rfl⟩ : ∃ k, m = k + 1 := ⟨m - 1, by omega⟩
  simp [bv, List.replicate_succ]
theorem looks_lt {t s l : List Nat} (h : looks t s = some l) : ∀ i ∈ l, i < t.length := (looks_back h).2
theorem made_bv (c : Nat) : madeCells (Value.int .u8 0).cells c = (bv (List.replicate c 0)).toArray := by
  apply Array.ext'
  simp only [madeCells, Value.cells, bv, List.map_replicate]
  apply List.ext_getElem
  · simp
  · intro j h1 h2
    simp [Nat.mod_one]
/-- make([]byte, l, c). -/

theorem mk_bytes (w : World) (l c : Nat) (h : l ≤ c) (hc : c ≤ 1000000) : (Instr.makeSlice 23 (.int .i64 (l : Nat)) (.int .i64 (c : Nat))).run Tryd.prog w = .ok (.slice (some ⟨w.heap.size, 0, none⟩) l c) (w.alloc (.cells (bv (List.replicate c 0)).toArray 5)) := by
  obtain ⟨i5, hi, hz0, hz1, hz2⟩ := info5_ex
  have hr := run_make (P := Tryd.prog) w 23 5 i5 (.int .u8 0) Tryd.underlying23 hi hz0 .i64 .i64 l c (by omega) (by omega) (by rw [hz2]; omega) (by omega)
  simp only [Int.toNat_natCast, hz1, Nat.mul_one, made_bv] at hr
  exact hr
theorem mk_own (w : World) (B l c : Nat) (h : l ≤ c) (hc : c ≤ 1000000) (hB : B ≤ w.heap.size) : (w.alloc (.cells (bv (List.replicate c 0)).toArray 5)).ownsRow B 5 1 (.slice (some ⟨w.heap.size, 0, none⟩) l c) l (bv (List.replicate l 0)) := by
  refine ⟨by simp [bv], .inr ⟨w.heap.size, c, _, rfl, hB, heap_alloc_new w _, h, by unfold maxLen; omega, by simp [bv], ?_⟩⟩
  simp [bv, List.take_replicate, Nat.min_eq_left h]
/-- What numbers has in hand. -/
structure Nmw (w wx : World) (B : Nat) (tb : List Nat) (v : Value) (n : Nat) (ds : List Nat) : Prop where
  p : wx.heap[B]? = some (.cells (bv tb).toArray 98 (0, 0))
  o : wx.ownsRow w.heap.size 5 1 v n (bv (ds ++ List.replicate (n - ds.length) 0))
  b : Below w.heap.size w wx
end
section
open Go.RowKit Go
theorem take_at (xs : List Nat) (k : Nat) (h : k < xs.length) : xs.take (k + 1) = xs.take k ++ [xs.getD k 0] := by
  rw [List.take_succ_eq_append_getElem h, List.getD_eq_getElem?_getD, List.getElem?_eq_getElem h]
  rfl
theorem i64_or_nat (a b : Nat) (ha : a < 4294967296) (hb : b < 4294967296) : bits .or .i64 (a : Int) (b : Int) = ((a ||| b : Nat) : Int) := by
  have hx : a ||| b < 2 ^ 32 := Nat.or_lt_two_pow (by omega) (by omega)
  show IntKind.i64.wrap ((BitVec.ofInt 64 (a : Int) ||| BitVec.ofInt 64 (b : Int)).toNat : Int) = _
  rw [BitVec.toNat_or, ofInt_u64 a (by omega), ofInt_u64 b (by omega), IntKind.wrap_i64]
  omega
theorem i64_and_nat (a b : Nat) (ha : a < 4294967296) (hb : b < 4294967296) : bits .and .i64 (a : Int) (b : Int) = ((a &&& b : Nat) : Int) := by
  have hx : a &&& b < 2 ^ 32 := Nat.and_lt_two_pow _ (by omega)
  show IntKind.i64.wrap ((BitVec.ofInt 64 (a : Int) &&& BitVec.ofInt 64 (b : Int)).toNat : Int) = _
  rw [BitVec.toNat_and, ofInt_u64 a (by omega), ofInt_u64 b (by omega), IntKind.wrap_i64]
  omega
theorem pow_le8 {f : Nat} (h : f ≤ 8) : 2 ^ f ≤ 256 := Nat.pow_le_pow_right (n := 2) (by decide) h
theorem rg_small {R : List Nat} (h : ∀ x ∈ R, x < 2) {t : Nat} (hl : R.length < t) (ht : t ≤ 8) : valB 2 R < 128 := by
  have h1 := valB_lt (b := 2) (by decide) h
  have h2 : 2 ^ R.length ≤ 2 ^ 7 := Nat.pow_le_pow_right (by decide) (by omega)
  omega
theorem or_more {R : List Nat} {f x t : Nat} (h : ∀ y ∈ R, y < 2) (hl : R.length < t) (ht : t ≤ 8) (hf : f ≤ 8) (hx : x < 2 ^ f) : bits .or .i64 (wrap64 ((valB 2 R : Nat) * 2 ^ f)) (wrap64 (x : Int)) = ((valB 2 (R ++ bitsW f x) : Nat) : Int) := by
  have h1 := rg_small h hl ht
  have h2 := pow_le8 hf
  have h3 : valB 2 R * 2 ^ f ≤ 128 * 256 := Nat.mul_le_mul (by omega) h2
  have e1 : ((valB 2 R : Nat) : Int) * 2 ^ f = ((valB 2 R * 2 ^ f : Nat) : Int) := by rw [Int.natCast_mul, Int.natCast_pow]; rfl
  rw [e1]
  have e2 : wrap64 ((valB 2 R * 2 ^ f : Nat) : Int) = ((valB 2 R * 2 ^ f : Nat) : Int) := by unfold wrap64; omega
  have e3 : wrap64 (x : Int) = (x : Int) := by unfold wrap64; omega
  rw [e2, e3, i64_or_nat _ _ (by omega) (by omega), nat_join f _ x (Nat.mul_mod_left _ _) hx, rest_more hx]
theorem and_left {V m : Nat} (hV : V < 65536) (hm : m ≤ 16) : bits .and .i64 (V : Int) (wrap64 (wrap64 (2 ^ m) - 1)) = ((V % 2 ^ m : Nat) : Int) := by
  have h1 : 2 ^ m ≤ 2 ^ 16 := Nat.pow_le_pow_right (by decide) hm
  have h0 : 0 < 2 ^ m := Nat.pow_pos (by decide)
  have e1 : (2 : Int) ^ m = ((2 ^ m : Nat) : Int) := by rw [Int.natCast_pow]; rfl
  have e2 : wrap64 (wrap64 (2 ^ m) - 1) = ((2 ^ m - 1 : Nat) : Int) := by
    rw [e1]
    unfold wrap64
    omega
  rw [e2, i64_and_nat _ _ (by omega) (by omega), Nat.and_two_pow_sub_one_eq_mod]
theorem Rg.len {tt : Nat} {B out R : List Nat} (h : Rg tt B out R) : out.length * tt + R.length = B.length := by
  have := congrArg List.length h.e
  rw [List.length_append, flat_len] at this
  omega
/-- What regroup has in hand. -/
structure Rgw (w wx : World) (f t : Nat) (xs : List Nat) (k : Nat) (vo : Value) (out R : List Nat) : Prop where
  g : Rg t ((xs.take k).flatMap (bitsW f)) out R
  o : wx.ownsRow w.heap.size 5 1 vo out.length (bv out)
  b : Below w.heap.size w wx
end
section
open Go.RowKit Go
/-- Numbers as the cells of a []int. -/
def ivs (l : List Nat) : List Value := l.map fun n : Nat => .int .i64 (n : Int)
theorem ivs_len (l : List Nat) : (ivs l).length = l.length := by simp [ivs]
theorem ivs_get {l : List Nat} {j : Nat} (h : j < l.length) : (ivs l)[j]? = some (.int .i64 ((l.getD j 0 : Nat) : Int)) := by simp [ivs, List.getD, h]
theorem ivs_snoc (l : List Nat) (n : Nat) : ivs (l ++ [n]) = ivs l ++ [.int .i64 (n : Int)] := by simp [ivs]
/-- A slice's length. -/
def slen : Value → Nat
  | .slice _ n _ => n
  | _ => 0
theorem append_nat {ops : Array Oper} {rest : List Oper} {o : Oper} {a : Act} {Q : Exit → Act → World → Prop} {w : World} (hgd : o.guard = none) (s x : Operand)
    (ho : o.op = .call { callee := .builtin .append, args := #[s, x], argTypes := #[54, 54] }) (B : Nat) (v : Value) (ds : List Nat) (hs : a.eval s = v) (hown : w.ownsRow B 3 1 v ds.length (ivs ds))
    (y : Nat) (hx : a.eval x = .slice (some ⟨w.heap.size, 0, none⟩) 1 1) (hlen : ds.length < 1099511627776) (hbase : B ≤ w.heap.size)
    (h : ∀ v' w', w'.ownsRow B 3 1 v' (ds ++ [y]).length (ivs (ds ++ [y])) → Below B w w' → wpList Tryd.prog ops Q rest (a.put o.dst v') w') : wpList Tryd.prog ops Q (o :: rest) a (w.alloc (.cells #[.int .i64 (y : Int)] 3)) := by
  refine append_int hgd s x ho B v ds.length (ivs ds) hs hown (y : Int) _ rfl hx hlen hbase fun v' w' h1 h2 _ => h v' w' (by rw [ivs_snoc, List.length_append]; exact h1) ?_
  exact ((Below.refl B w).alloc hbase _).grown h2 (by simp; omega) (fun g hg => (hown.lt g hg).1)
theorem append_byte {ops : Array Oper} {rest : List Oper} {o : Oper} {a : Act} {Q : Exit → Act → World → Prop} {w : World} (hgd : o.guard = none) (s x : Operand)
    (ho : o.op = .call { callee := .builtin .append, args := #[s, x], argTypes := #[23, 23] }) (B : Nat) (v : Value) (ds : List Nat) (hs : a.eval s = v) (hown : w.ownsRow B 5 1 v ds.length (bv ds))
    (y : Nat) (hy : y < 256) (hx : a.eval x = .slice (some ⟨w.heap.size, 0, none⟩) 1 1) (hlen : ds.length < 1099511627776) (hbase : B ≤ w.heap.size)
    (h : ∀ v' w', w'.ownsRow B 5 1 v' (ds ++ [y]).length (bv (ds ++ [y])) → Below B w w' → wpList Tryd.prog ops Q rest (a.put o.dst v') w') : wpList Tryd.prog ops Q (o :: rest) a (w.alloc (.cells #[.int .u8 (y : Int)] 5)) := by
  have hA := hown.alloc (.cells #[.int .u8 ((y : Nat) : Int)] 5)
  refine append_bsl hgd s x ho B v ds.length ds hs hA _ [y] hx (one_bsl w y hy) (by rw [List.length_singleton]; omega) (by simp; omega) fun v' w' h1 h2 => h v' w' (by rw [List.length_append]; exact h1) ?_
  exact ((Below.refl B w).alloc hbase _).grown h2 (by simp; omega) (fun g hg => (hA.lt g hg).1)

/-- The reference's digits. -/
def rdg (base : Nat) : List Nat := if base = 1 then d16 else if base = 2 then d32 else d58
def rdb (base : Nat) : ByteArray := nstr (rdg base)
theorem rdg_byte (base : Nat) : ∀ x ∈ rdg base, x < 256 := by
  unfold rdg
  split
  · decide
  · split <;> decide
theorem rdb_sl (base : Nat) : sl (rdb base) = rdg base := sl_nstr (rdg_byte base)
theorem rdb_size (base : Nat) : (rdb base).size = (rdg base).length := nstr_size (rdg_byte base)
theorem rdg_len (base : Nat) : (rdg base).length ≤ 58 := by
  unfold rdg
  split
  · decide
  · split <;> decide
theorem look_drop {t : List Nat} {c : Nat} (i : Nat) (hi : i < t.length) : look (t.drop i) c = if t.getD i 0 = c then some 0 else (look (t.drop (i + 1)) c).map (· + 1) := by
  rw [List.drop_eq_getElem_cons hi, look]
  have e : t.getD i 0 = t[i] := by rw [List.getD_eq_getElem?_getD, List.getElem?_eq_getElem hi]; rfl
  rw [e]
/-- What value tells. -/
def lkn (o : Option Nat) : Int := match o with | some i => (i : Int) | none => -1
end
section
open Go.RowKit Go
/-- A slice of numbers, plainly. -/
structure ISl (w : World) (v : Value) (ps : List Nat) : Prop where
  form : ∃ a cap, v = .slice a ps.length cap ∧ (ps.length ≤ cap ∧ (a = none → cap = 0)) ∧ (ps = [] ∨ ∃ b off, a = some ⟨b, off, none⟩ ∧ ∀ j p, ps[j]? = some p → w.cell? ⟨b, off + j, none⟩ = some (.int .i64 (p : Nat)))
  max : ps.length ≤ 140737488351232
theorem ISl.move {w w' : World} {v : Value} {ps : List Nat} (h : ISl w v ps) (hm : ∀ p u, w.cell? p = some u → w'.cell? p = some u) : ISl w' v ps := by
  obtain ⟨⟨a, c, hv, hn, hc⟩, h1⟩ := h
  refine ⟨⟨a, c, hv, hn, ?_⟩, h1⟩
  rcases hc with hc | ⟨b, off, ha, hc⟩
  · exact .inl hc
  · exact .inr ⟨b, off, ha, fun j s hj => hm _ _ (hc j s hj)⟩
theorem ISl.own {w : World} {base n : Nat} {v : Value} {ps : List Nat} (h : w.ownsRow base 3 1 v n (ivs ps)) (hn : n = ps.length) (hm : ps.length ≤ 140737488351232) : ISl w v ps := by
  subst hn
  rcases id h.2 with ⟨hv, he⟩ | ⟨g, cap, cur, hv, _, _, h1, _⟩
  · subst hv
    have e : ps = [] := List.length_eq_zero_iff.1 he
    subst e
    exact ⟨⟨none, 0, rfl, ⟨by simp, fun _ => rfl⟩, .inl rfl⟩, hm⟩
  · subst hv
    refine ⟨⟨_, cap, rfl, ⟨by omega, fun h => by cases h⟩, .inr ⟨g, 0, rfl, fun j s hj => ?_⟩⟩, hm⟩
    rw [Nat.zero_add]
    have hjl := (List.getElem?_eq_some_iff.1 hj).1
    have hg := (own_cell h (ivs_get hjl)).1
    rw [hg]
    simp [List.getD, hj]
/-- The items at these places. -/
def pickS (ks : List ByteArray) (ps : List Nat) : List ByteArray := ps.map fun p => ks.getD p ⟨#[]⟩
theorem pickS_len (ks : List ByteArray) (ps : List Nat) : (pickS ks ps).length = ps.length := by simp [pickS]
theorem pickS_snoc {ks : List ByteArray} {ps : List Nat} {i p : Nat} {s : ByteArray} (hp : ps[i]? = some p) (hs : ks[p]? = some s) : pickS ks (ps.take (i + 1)) = pickS ks (ps.take i) ++ [s] := by
  have hi := (List.getElem?_eq_some_iff.1 hp).1
  rw [List.take_succ_eq_append_getElem hi]
  rw [List.getElem?_eq_getElem hi] at hp
  injection hp with hp
  simp [pickS, hp, List.getD, hs]
def pickL (L : List (Array Value)) (ps : List Nat) : List (Array Value) := ps.map fun p => L.getD p #[]
theorem pickL_len (L : List (Array Value)) (ps : List Nat) : (pickL L ps).length = ps.length := by simp [pickL]
theorem pickL_snoc {L : List (Array Value)} {ps : List Nat} {i p : Nat} {c : Array Value} (hp : ps[i]? = some p) (hs : L[p]? = some c) : pickL L (ps.take (i + 1)) = pickL L (ps.take i) ++ [c] := by
  have hi := (List.getElem?_eq_some_iff.1 hp).1
  rw [List.take_succ_eq_append_getElem hi]
  rw [List.getElem?_eq_getElem hi] at hp
  injection hp with hp
  simp [pickL, hp, List.getD, hs]
set_option maxRecDepth 1000000 in
set_option maxHeartbeats 1000000 in
theorem pickedS_any (w : World) (v vp : Value) (ks : List ByteArray) (ps : List Nat) (hv : SSl w v ks) (hp : ISl w vp ps) (hps : ∀ p ∈ ps, p < ks.length) (hlen : ps.length ≤ 100000) :
    Calls Tryd.prog 26 #[v, vp] w fun e w' => ∃ v', e = .returned v' ∧ w'.ownsRow w.heap.size 9 1 v' ps.length (sv (pickS ks ps)) ∧ Below w.heap.size w w' := by
  have HSZ := hide hv.size
  have HPS := hide hps
  obtain ⟨⟨a, cap, rfl, _, hc⟩, _, _⟩ := hv
  obtain ⟨⟨ap, capp, rfl, _, hcp⟩, _⟩ := hp
  have HC := hide hc
  have HCP := hide hcp
  clear hc hcp hps
  generalize hB : w.heap.size = B at *
  have HBe := hide hB
  clear hB
  go_enter Tryd.func26, Tryd.ntmps26
  go_wp2_with fail
  go_loopw [5, 10] (fun vv ii wx => ∃ i : Nat, i ≤ ps.length ∧ ii = .int .i64 (i : Nat) ∧ Hid (wx.ownsRow B 9 1 vv i (sv (pickS ks (ps.take i)))) ∧ Hid (Below B w wx)) (fun _ ii _ => ps.length - (intOf ii).toNat)
  case atStart => exact ⟨0, by omega, rfl, World.ownsRow_nil _ _ _ _, Below.refl _ _⟩
  case round =>
    obtain ⟨i, hi, rfl, HO, HBw⟩ := hrel
    by_cases hlt : i < ps.length
    · as_aux_lemma =>
      have g1 : (i : Int) < (ps.length : Int) := by omega
      obtain ⟨p, hpi⟩ : ∃ p, ps[i]? = some p := ⟨ps[i], List.getElem?_eq_getElem hlt⟩
      have hpl := HPS.out p (List.mem_of_getElem? hpi)
      have g2 : (p : Int) < (ks.length : Int) := by omega
      obtain ⟨s, hs⟩ : ∃ s, ks[p]? = some s := ⟨ks[p], List.getElem?_eq_getElem hpl⟩
      obtain ⟨b, off, rfl, hcc⟩ := HCP.out.resolve_left (fun h => by rw [h] at hlt; simp at hlt)
      obtain ⟨b2, off2, rfl, hcd⟩ := HC.out.resolve_left (fun h => by rw [h] at hpl; simp at hpl)
      have hkb : ∀ p x, w.cell? p = some x → wr.cell? p = some x := keep_below (by have e := HBw.out; rw [← HBe.out] at e; exact e)
      have c1 := hkb _ _ (hcc i p hpi)
      have c2 := hkb _ _ (hcd p s hs)
      have HS1 := hide (HSZ.out s (List.mem_of_getElem? hs))
      have HPK := hide (pickS_snoc hpi hs)
      obtain ⟨ax, cx, hvx⟩ : ∃ ax cx, u5 = .slice ax i cx := by
        rcases HO.out.2 with ⟨e, h0⟩ | ⟨g, c, cur, e, _⟩
        · exact ⟨none, 0, by rw [e, h0]⟩
        · exact ⟨_, c, e⟩
      subst hvx
      clear hpi hs hcc hcd hkb HC HCP
      go_wp2_with (at_builtin; refine append_ssl rfl _ _ rfl B _ i (pickS ks (ps.take i)) rfl (HO.out.alloc _) _ [s] rfl (one_ssl _ s HS1.out) ?b1 ?b2 ?_)
      case b1 => simp; omega
      case b2 => have := HBw.out.size; have := HBe.out; simp; omega
      intro v2 w2 ho2 hg2
      have hb2 : Below B w w2 := (HBw.out.alloc (by have := HBw.out.size; have := HBe.out; omega) _).grown hg2 (by have := HBw.out.size; have := HBe.out; simp; omega) (fun q hq => (HO.out.lt q hq).1)
      have HO2 : Hid (w2.ownsRow B 9 1 v2 (i + 1) (sv (pickS ks (ps.take (i + 1))))) := by show World.ownsRow _ _ _ _ _ _ _; rw [HPK.out]; exact ho2
      have HB2 := hide hb2
      clear hg2 ho2 hb2 c1 c2
      go_wp2_with fail
      go_roundw
      case rel => exact ⟨i + 1, by omega, by go_num, HO2, HB2⟩
      case measure => simp [intOf]; omega
    · as_aux_lemma =>
      have g1 : ¬ (i : Int) < (ps.length : Int) := by omega
      have e1 : i = ps.length := by omega
      subst e1
      have HO2 := hide HO.out
      rw [List.take_length] at HO2
      go_wp2_with fail
      go_ret
      exact ⟨_, rfl, HO2.out, HBw.out⟩
set_option maxRecDepth 1000000 in
set_option maxHeartbeats 1000000 in
theorem pickedV_any (w : World) (v vp : Value) (L : List (Array Value)) (ps : List Nat) (B0 : Nat) (hv : w.ownsRow B0 29 13 v L.length (vfl L)) (h1 : ∀ c ∈ L, one13 c) (hp : ISl w vp ps) (hps : ∀ p ∈ ps, p < L.length) (hlen : ps.length ≤ 100000) :
    Calls Tryd.prog 27 #[v, vp] w fun e w' => ∃ v', e = .returned v' ∧ w'.ownsRow w.heap.size 29 13 v' ps.length (vfl (pickL L ps)) ∧ Below w.heap.size w w' := by
  have HPS := hide hps
  have H13 : Hid (∀ c ∈ L, c.size = 13) := fun c hc => (h1 c hc).1
  have HV := hide hv
  have H1 := hide h1
  obtain ⟨a, cap, rfl⟩ : ∃ a c, v = .slice a L.length c := by
    rcases hv.2 with ⟨e, h0⟩ | ⟨g, c, cur, e, _⟩
    · exact ⟨none, 0, by rw [e, h0]⟩
    · exact ⟨_, c, e⟩
  obtain ⟨⟨ap, capp, rfl, _, hcp⟩, _⟩ := hp
  have HCP := hide hcp
  have hmax : L.length ≤ 9223372036854775807 := by
    rcases hv.2 with ⟨e, h0⟩ | ⟨g, c, cur, e, _, _, h2, h3, _⟩
    · omega
    · unfold maxLen at h3; omega
  clear hcp hps h1 hv
  generalize hB : w.heap.size = B at *
  have HBe := hide hB
  clear hB
  go_enter Tryd.func27, Tryd.ntmps27
  go_wp2_with fail
  go_loopw [5, 10] (fun vv ii wx => ∃ i : Nat, i ≤ ps.length ∧ ii = .int .i64 (i : Nat) ∧ Hid (wx.ownsRow B 29 13 vv i (vfl (pickL L (ps.take i)))) ∧ Hid (Below B w wx)) (fun _ ii _ => ps.length - (intOf ii).toNat)
  case atStart => exact ⟨0, by omega, rfl, World.ownsRow_nil _ _ _ _, Below.refl _ _⟩
  case round =>
    obtain ⟨i, hi, rfl, HO, HBw⟩ := hrel
    by_cases hlt : i < ps.length
    · as_aux_lemma =>
      have g1 : (i : Int) < (ps.length : Int) := by omega
      obtain ⟨p, hpi⟩ : ∃ p, ps[i]? = some p := ⟨ps[i], List.getElem?_eq_getElem hlt⟩
      have hpl := HPS.out p (List.mem_of_getElem? hpi)
      have g2 : (p : Int) < (L.length : Int) := by omega
      obtain ⟨c, hc⟩ : ∃ c, L[p]? = some c := ⟨L[p], List.getElem?_eq_getElem hpl⟩
      obtain ⟨b, off, rfl, hcc⟩ := HCP.out.resolve_left (fun h => by rw [h] at hlt; simp at hlt)
      obtain ⟨g, rfl, hgc⟩ : ∃ g, a = some ⟨g, 0, none⟩ ∧ ∀ j x, c[j]? = some x → w.cell? ⟨g, p * 13 + j, none⟩ = some x := by
        have hV := HV.out
        rcases id hV.2 with ⟨e, h0⟩ | ⟨g, c', cur, e, _⟩
        · omega
        · injection e with e1 e2 e3
          subst e1
          exact ⟨g, rfl, fun j x hx => own_val hV H13.out hc j x hx⟩
      have hkb : ∀ p x, w.cell? p = some x → wr.cell? p = some x := keep_below (by have e := HBw.out; rw [← HBe.out] at e; exact e)
      have c1 := hkb _ _ (hcc i p hpi)
      have HCC : Hid (∀ j x, c[j]? = some x → wr.cell? ⟨g, p * 13 + j, none⟩ = some x) := fun j x hx => hkb _ _ (hgc j x hx)
      have HC1 := hide (H1.out c (List.mem_of_getElem? hc))
      have HPK := hide (pickL_snoc hpi hc)
      obtain ⟨ax, cx, hvx⟩ : ∃ ax cx, u5 = .slice ax i cx := by
        rcases HO.out.2 with ⟨e, h0⟩ | ⟨g, c, cur, e, _⟩
        · exact ⟨none, 0, by rw [e, h0]⟩
        · exact ⟨_, c, e⟩
      subst hvx
      have HG6 : Hid ((wr.alloc (.cells c 29)).heap[wr.heap.size]? = some (.cells c 29 (0, 0))) := heap_alloc_new wr _
      clear hpi hc hcc hgc hkb HCP HV
      go_wp2_with (first
        | (refine wpList_valAt rfl rfl g (p * 13) c rfl HC1.out.1 HCC.out ?_)
        | (refine wpList_val1 rfl rfl c HC1.out.1 rfl ?_)
        | (at_builtin; refine append_val rfl _ _ rfl B _ i (vfl (pickL L (ps.take i))) rfl (HO.out.alloc _) wr.heap.size c HC1.out rfl HG6.out ?b1 ?b2 ?_))
      case b1 => omega
      case b2 => have := HBw.out.size; have := HBe.out; simp; omega
      intro v2 w2 ho2 hg2 _
      have hb2 : Below B w w2 := (HBw.out.alloc (by have := HBw.out.size; have := HBe.out; omega) _).grown hg2 (by have := HBw.out.size; have := HBe.out; simp; omega) (fun q hq => (HO.out.lt q hq).1)
      have HO2 : Hid (w2.ownsRow B 29 13 v2 (i + 1) (vfl (pickL L (ps.take (i + 1))))) := by
        show World.ownsRow _ _ _ _ _ _ _
        rw [HPK.out, vfl_app]
        have e : vfl [c] = c.toList := by simp [vfl]
        rw [e]
        exact ho2
      have HB2 := hide hb2
      clear hg2 ho2 hb2 c1 HCC
      go_wp2_with fail
      go_roundw
      case rel => exact ⟨i + 1, by omega, by go_num, HO2, HB2⟩
      case measure => simp [intOf]; omega
    · as_aux_lemma =>
      have g1 : ¬ (i : Int) < (ps.length : Int) := by omega
      have e1 : i = ps.length := by omega
      subst e1
      have HO2 := hide HO.out
      rw [List.take_length] at HO2
      go_wp2_with fail
      go_ret
      exact ⟨_, rfl, HO2.out, HBw.out⟩
end
section
open Go.RowKit Go
set_option maxRecDepth 1000000 in
set_option maxHeartbeats 1000000 in
/-- The closure by which order compares two places. -/
theorem clo_any (w : World) (B b off n cap i j : Nat) (s t : ByteArray) (c8 : w.cell? ⟨B, 11, none⟩ = some (.slice (some ⟨b, off, none⟩) n cap)) (hi : i < n) (hj : j < n) (ci : w.cell? ⟨b, off + i, none⟩ = some (.string s)) (cj : w.cell? ⟨b, off + j, none⟩ = some (.string t)) :
    Calls Tryd.prog 43 #[.int .i64 (i : Nat), .int .i64 (j : Nat), .pointer (some ⟨B, 0, none⟩)] w fun e w' => e = .returned (.int .i64 (agn s t)) ∧ ∃ q, w' = w.drewN q := by
  have hi2 : (i : Int) < (n : Int) := by omega
  have hj2 : (j : Int) < (n : Int) := by omega
  have HA := fun W => against_any s t W
  generalize agn s t = R at *
  go_enter Tryd.func43, Tryd.ntmps43
  go_wp2_with fail
  go_quiet (first | (go_at_call 41; exact Calls.quiet_of_same (HA _)))
  go_wp2_with fail
  go_ret
  exact ⟨rfl, _, rfl⟩
/-! Keys' order is a strict order. -/
theorem blt_tr : ∀ (x y z : List Nat), x.length = y.length → y.length = z.length → blt x y = true → blt y z = true → blt x z = true
  | [], _, _, _, _, h, _ => by simp [blt] at h
  | _ :: _, [], _, h, _, _, _ => by simp at h
  | _ :: _, _ :: _, [], _, h, _, _ => by simp at h
  | a :: x, b :: y, c :: z, h1, h2, h3, h4 => by
    have ih := blt_tr x y z (by simpa using h1) (by simpa using h2)
    simp only [blt] at *
    by_cases e1 : a = b
    · by_cases e2 : b = c
      · rw [if_pos e1] at h3
        rw [if_pos e2] at h4
        rw [if_pos (by omega)]
        exact ih h3 h4
      · rw [if_neg e2] at h4
        rw [if_neg (by omega)]
        simp at *
        omega
    · rw [if_neg e1] at h3
      by_cases e2 : b = c
      · rw [if_neg (by omega)]
        simp at *
        omega
      · rw [if_neg e2] at h4
        simp at h3 h4
        rw [if_neg (by omega)]
        simp
        omega
theorem blt_nt : ∀ (x y z : List Nat), x.length = y.length → y.length = z.length → blt x y = false → blt y z = false → blt x z = false
  | [], _, _, _, _, _, _ => by simp [blt]
  | _ :: _, [], _, h, _, _, _ => by simp at h
  | _ :: _, _ :: _, [], _, h, _, _ => by simp at h
  | a :: x, b :: y, c :: z, h1, h2, h3, h4 => by
    have ih := blt_nt x y z (by simpa using h1) (by simpa using h2)
    simp only [blt] at *
    by_cases e1 : a = b
    · by_cases e2 : b = c
      · rw [if_pos e1] at h3
        rw [if_pos e2] at h4
        rw [if_pos (by omega)]
        exact ih h3 h4
      · rw [if_neg e2] at h4
        rw [if_neg (by omega)]
        simp at *
        omega
    · rw [if_neg e1] at h3
      by_cases e2 : b = c
      · rw [if_neg (by omega)]
        simp at *
        omega
      · rw [if_neg e2] at h4
        simp at h3 h4
        rw [if_neg (by omega)]
        simp
        omega
theorem bfr_self (x : List Nat) : bfr x x = false := by
  unfold bfr
  rw [if_pos rfl]
  exact blt_self x
theorem bfr_tr (x y z : List Nat) (h1 : bfr x y = true) (h2 : bfr y z = true) : bfr x z = true := by
  unfold bfr at *
  by_cases e1 : x.length = y.length
  · rw [if_pos e1] at h1
    by_cases e2 : y.length = z.length
    · rw [if_pos e2] at h2
      rw [if_pos (by omega)]
      exact blt_tr x y z e1 e2 h1 h2
    · rw [if_neg e2] at h2
      rw [if_neg (by omega)]
      simp at *
      omega
  · rw [if_neg e1] at h1
    by_cases e2 : y.length = z.length
    · rw [if_neg (by omega)]
      simp at *
      omega
    · rw [if_neg e2] at h2
      simp at h1 h2
      rw [if_neg (by omega)]
      simp
      omega
theorem bfr_nt (x y z : List Nat) (h1 : bfr x y = false) (h2 : bfr y z = false) : bfr x z = false := by
  unfold bfr at *
  by_cases e1 : x.length = y.length
  · rw [if_pos e1] at h1
    by_cases e2 : y.length = z.length
    · rw [if_pos e2] at h2
      rw [if_pos (by omega)]
      exact blt_nt x y z e1 e2 h1 h2
    · rw [if_neg e2] at h2
      rw [if_neg (by omega)]
      simp at *
      omega
  · rw [if_neg e1] at h1
    by_cases e2 : y.length = z.length
    · rw [if_neg (by omega)]
      simp at *
      omega
    · rw [if_neg e2] at h2
      simp at h1 h2
      rw [if_neg (by omega)]
      simp
      omega
/-- How the keys at two places stand. -/
def kcf (ks : List ByteArray) (n : Nat) (x y : Fin n) : Int := agn (ks.getD x.val ⟨#[]⟩) (ks.getD y.val ⟨#[]⟩)
theorem kcf_lt (ks : List ByteArray) (n : Nat) (x y : Fin n) : Go.Proofs.ltOf (kcf ks n) x y = bfr (sl (ks.getD x.val ⟨#[]⟩)) (sl (ks.getD y.val ⟨#[]⟩)) := by
  unfold Go.Proofs.ltOf kcf
  rw [Bool.eq_iff_iff, decide_eq_true_iff]
  exact agn_bfr _ _
theorem kcf_swo (ks : List ByteArray) (n : Nat) : Go.Sort.SWO (Go.Proofs.ltOf (kcf ks n)) where
  irrefl x := by rw [kcf_lt]; exact bfr_self _
  trans x y z h1 h2 := by rw [kcf_lt] at *; exact bfr_tr _ _ _ h1 h2
  ntrans x y z h1 h2 := by rw [kcf_lt] at *; exact bfr_nt _ _ _ h1 h2
end
section
open Go.RowKit Go
/-- Places in keys' order. -/
structure Srp (ks : List ByteArray) (n : Nat) (ps : List Nat) : Prop where
  p : ps.Perm (List.range n)
  s : ∀ (i j p q : Nat), i < j → ps[i]? = some p → ps[j]? = some q → bfr (sl (ks.getD q ⟨#[]⟩)) (sl (ks.getD p ⟨#[]⟩)) = false
theorem Srp.len {ks : List ByteArray} {n : Nat} {ps : List Nat} (h : Srp ks n ps) : ps.length = n := by rw [h.p.length_eq, List.length_range]
theorem Srp.lt {ks : List ByteArray} {n : Nat} {ps : List Nat} (h : Srp ks n ps) : ∀ p ∈ ps, p < n := fun p hp => by simpa using h.p.mem_iff.1 hp
def finV (n : Nat) (i : Fin n) : Value := .int .i64 ((i.val : Nat) : Int)
theorem sortW_block {α : Type} [Inhabited α] (enc : α → Value) (w : World) (g m : Nat) (d : Array α) (os : Array Obj) (cur : Array Value) (e : TypeId) (hg : w.heap[g]? = some (.cells cur e (0, 0))) : (Go.Proofs.sortWorld enc w g 0 m d os).heap[g]? = some (.cells (Go.Sort.putCells enc 0 d cur) e (0, 0)) := by
  unfold Go.Proofs.sortWorld
  rw [Go.Sort.heap_grow_old _ _ (by rw [Go.Sort.size_putRow]; exact blk_lt hg)]
  simp [Go.Sort.putRow, Go.Sort.mapBlock, Array.getElem?_modify, hg, Go.Sort.onCells, Go.Sort.ahead]
theorem sortW_kp {α : Type} [Inhabited α] (enc : α → Value) (w : World) (g m : Nat) (d : Array α) (os : Array Obj) : Kp (fun q => q = g) w (Go.Proofs.sortWorld enc w g 0 m d os) := by
  refine ⟨rfl, rfl, rfl, ?_, fun k hk hs => ?_⟩
  · unfold Go.Proofs.sortWorld
    rw [Go.Sort.size_grow, Go.Sort.size_putRow]
    show w.heap.size ≤ w.heap.size + os.size
    omega
  · unfold Go.Proofs.sortWorld
    rw [Go.Sort.heap_grow_old _ _ (by rw [Go.Sort.size_putRow]; exact hk)]
    have hs' : ¬ g = k := fun e => hs e.symm
    simp [Go.Sort.putRow, Go.Sort.mapBlock, Array.getElem?_modify, Go.Sort.ahead, hs']
theorem put_ivs (n : Nat) (d : Array (Fin n)) (cur : Array Value) [Inhabited (Fin n)] (hd : d.size = n) (hc : cur.size = n) : Go.Sort.putCells (finV n) 0 d cur = (ivs (d.toList.map Fin.val)).toArray := by
  apply Array.ext_getElem?
  intro k
  simp only [Go.Sort.putCells, Array.getElem?_mapIdx]
  by_cases hk : k < n
  · rw [Array.getElem?_eq_getElem (by omega), Option.map_some, if_pos ⟨by omega, by omega⟩]
    have h1 : d[k - 0]! = d[k]'(by omega) := by rw [Nat.sub_zero, getElem!_pos d k (by omega)]
    rw [h1]
    simp [ivs, finV, show k < d.size by omega]
  · rw [Array.getElem?_eq_none (by omega), Array.getElem?_eq_none (by simp [ivs]; omega)]
    rfl
/-- The order that Go's own sort gives. -/
def ordF (ks : List ByteArray) (n : Nat) [Inhabited (Fin n)] : Array (Fin n) := Go.Sort.pdq (Go.Proofs.ltOf (kcf ks n)) (List.finRange n).toArray 0 (List.finRange n).toArray.size (Lib.bitLen (List.finRange n).toArray.size) true true
def ordp (ks : List ByteArray) (n : Nat) : List Nat := if h : 0 < n then (@ordF ks n ⟨⟨0, h⟩⟩).toList.map Fin.val else []
set_option maxRecDepth 1000000 in
theorem sort_any (w : World) (B b off cap n g : Nat) (ks : List ByteArray) (hn0 : 0 < n) (hnk : n ≤ ks.length) (hn : n ≤ 1000000) (c11 : w.cell? ⟨B, 11, none⟩ = some (.slice (some ⟨b, off, none⟩) ks.length cap)) (hk : ∀ j s, ks[j]? = some s → w.cell? ⟨b, off + j, none⟩ = some (.string s))
    (hg : w.heap[g]? = some (.cells (ivs (List.range n)).toArray 3 (0, 0))) (hgB : B ≠ g) (hgb : b ≠ g) :
    Calls Tryd.prog 42 #[.slice (some ⟨g, 0, none⟩) n n, .func (.func 43) #[] #[.pointer (some ⟨B, 0, none⟩)]] w fun e w' => e = .returned (.tuple #[]) ∧ ∃ ps, ps = ordp ks n ∧ Srp ks n ps ∧ w'.heap[g]? = some (.cells (ivs ps).toArray 3 (0, 0)) ∧ Kp (fun q => q = g) w w' := by
  let inst : Inhabited (Fin n) := ⟨⟨0, hn0⟩⟩
  have eg : ∀ args w, (callFunc 43 args).run Tryd.prog w = .ok (.enter 43 args) w := enters_of Tryd.func43 (by kernel_rfl) rfl
  have hds : (List.finRange n).toArray.size = n := by simp
  have hdj : ∀ j (hj : j < n), (List.finRange n).toArray[j]! = ⟨j, hj⟩ := fun j hj => by
    rw [getElem!_pos _ j (by simpa using hj)]
    simp
  have hH : Go.Sort.Holds (finV n) w g 0 (List.finRange n).toArray := fun j hj => by
    rw [hds] at hj
    rw [hdj j hj, Nat.zero_add]
    refine ⟨blk_cell hg ?_, blk_frozen j hg⟩
    simp [ivs, finV, hj]
  have hcmp : Go.Proofs.CmpLays1 Tryd.prog 43 #[.pointer (some ⟨B, 0, none⟩)] (finV n) (kcf ks n) g 0 (List.finRange n).toArray.size w := by
    intro m os dk _ x y
    have hx : ks[x.val]? = some (ks.getD x.val ⟨#[]⟩) := by
      have := x.isLt
      simp [List.getD, List.getElem?_eq_getElem (show x.val < ks.length by omega)]
    have hy : ks[y.val]? = some (ks.getD y.val ⟨#[]⟩) := by
      have := y.isLt
      simp [List.getD, List.getElem?_eq_getElem (show y.val < ks.length by omega)]
    have hkp := sortW_kp (finV n) w g m dk os
    exact (clo_any (Go.Proofs.sortWorld (finV n) w g 0 m dk os) B b off ks.length cap x.val y.val _ _ (hkp.cell c11 hgB) (by have := x.isLt; omega) (by have := y.isLt; omega) (hkp.cell (hk _ _ hx) hgb) (hkp.cell (hk _ _ hy) hgb)).mono fun _ _ ⟨he, q, hq⟩ => ⟨he, q, #[], by rw [hq, Go.Sort.grow_empty]⟩
  have hS := Go.Proofs.Any.slices_SortFunc_eq Tryd.sortL (finV n) (fun _ => rfl) (kcf ks n) (kcf_swo ks n) 43 #[.pointer (some ⟨B, 0, none⟩)] g 0 n (List.finRange n).toArray w eg hcmp hH (blk_lt hg) (by rw [hds]; omega)
  have hpd := Go.Sort.pdq_sorts (Go.Proofs.ltOf (kcf ks n)) (kcf_swo ks n) (List.finRange n).toArray 0 (List.finRange n).toArray.size (Lib.bitLen (List.finRange n).toArray.size) true true (Nat.zero_le _) (Nat.le_refl _) (Or.inl rfl)
  have hod : ordp ks n = (ordF ks n).toList.map Fin.val := by
    unfold ordp
    rw [dif_pos hn0]
  have hS2 : Calls Tryd.prog 42 #[.slice (some ⟨g, 0, none⟩) n n, .func (.func 43) #[] #[.pointer (some ⟨B, 0, none⟩)]] w fun e w' => e = .returned (.tuple #[]) ∧ ∃ m os, w' = Go.Proofs.sortWorld (finV n) w g 0 m (ordF ks n) os := by
    have h := hS
    rw [show (Value.slice (some ⟨g, 0, none⟩) (List.finRange n).toArray.size n) = .slice (some ⟨g, 0, none⟩) n n by rw [hds]] at h
    exact h
  have hpd2 : Go.Sort.PermIn 0 (List.finRange n).toArray.size (List.finRange n).toArray (ordF ks n) ∧ Go.Sort.SortedIn (Go.Proofs.ltOf (kcf ks n)) 0 (List.finRange n).toArray.size (ordF ks n) := hpd
  clear hS hpd
  generalize ordF ks n = d' at *
  obtain ⟨hp, hs⟩ := hpd2
  rw [hds] at hp hs
  refine Calls.mono hS2 ?_
  rintro e w' ⟨he, m, os, rfl⟩
  have hd' : d'.size = n := by rw [hp.1, hds]
  have hperm : d'.toList.Perm (List.finRange n) := by
    have h := hp.2.2
    have e1 : d'.extract 0 n = d' := by
      have h2 : d'.extract 0 d'.size = d' := by simp
      rw [hd'] at h2
      exact h2
    have e2 : (List.finRange n).toArray.extract 0 n = (List.finRange n).toArray := by
      have h2 : (List.finRange n).take n = List.finRange n := List.take_of_length_le (by simp)
      simp [h2]
    rw [e1, e2] at h
    exact h
  refine ⟨he, d'.toList.map Fin.val, hod.symm, ⟨?_, ?_⟩, ?_, sortW_kp _ _ _ _ _ _⟩
  · have h := hperm.map Fin.val
    have e : (List.finRange n).map Fin.val = List.range n := by
      apply List.ext_getElem?
      intro j
      by_cases hj : j < n
      · simp [hj]
      · rw [List.getElem?_eq_none (by simpa using hj), List.getElem?_eq_none (by simpa using hj)]
    rw [e] at h
    exact h
  · intro i j p q hij h1 h2
    have hjl : j < d'.size := by
      have := (List.getElem?_eq_some_iff.1 h2).1
      simpa using this
    have hil : i < d'.size := by omega
    simp [hil] at h1
    simp [hjl] at h2
    have hl := hs i j (Nat.zero_le _) hij (by omega)
    rw [kcf_lt, getElem!_pos d' i hil, getElem!_pos d' j hjl, h1, h2] at hl
    exact hl
  · rw [sortW_block _ _ _ _ _ _ _ _ hg, put_ivs n d' _ hd' (by simp [ivs])]
end
section
open Go.RowKit Go
/-- What LendValues has in hand. -/
structure Lvi (w : World) (B : Nat) (wx : World) (v : Value) (L : List (Array Value)) (is : List Tv) : Prop where
  o : wx.ownsRow B 29 13 v L.length (vfl L)
  s : ∀ c ∈ L, c.size = 13
  b : Below B w wx
  z : B ≤ wx.heap.size
  i : ∀ (j : Nat) (u : Tv) (c : Array Value), is[j]? = some u → L[j]? = some c → ∃ lo hi, B ≤ lo ∧ hi ≤ wx.heap.size ∧ (∀ q, v.ownBlock = some q → q < lo ∨ hi ≤ q) ∧ Ltv wx lo hi u c
theorem Lvi.next {w : World} {B : Nat} {wx wy : World} {v : Value} {L : List (Array Value)} {is : List Tv} (h : Lvi w B wx v L is) (hb : Below wx.heap.size wx wy) : Lvi w B wy v L is :=
  ⟨(Kp.of_below (S := fun _ => False) hb).owns h.o (fun _ _ hf => hf), h.s, h.b.trans (hb.mono h.z), Nat.le_trans h.z hb.size, fun j u c h1 h2 => by
    obtain ⟨lo, hi, e1, e2, e3, e4⟩ := h.i j u c h1 h2
    exact ⟨lo, hi, e1, Nat.le_trans e2 hb.size, e3, e4.kept hb⟩⟩
theorem Lvi.app {w : World} {B : Nat} {wx wy : World} {v v' : Value} {L : List (Array Value)} {is : List Tv} (h : Lvi w B wx v L is) {c : Array Value} (hc : c.size = 13) (ho : wy.ownsRow B 29 13 v' (L.length + 1) (vfl L ++ c.toList)) (hg : wx.grownBy wy v.ownBlock) (hv : v'.ownBlock = v.ownBlock ∨ v'.ownBlock = some wx.heap.size)
    (hnew : ∀ u, is[L.length]? = some u → ∃ lo hi, B ≤ lo ∧ hi ≤ wx.heap.size ∧ (∀ q, v.ownBlock = some q → q < lo ∨ hi ≤ q) ∧ Ltv wx lo hi u c) : Lvi w B wy v' (L ++ [c]) is := by
  have hk : Kp (fun q => v.ownBlock = some q) wx wy := (Kp.refl _ _).grown hg (fun k _ h => h)
  have hz := hk.size
  refine ⟨?_, ?_, h.b.grown hg h.z (fun g hg => (h.o.lt g hg).1), Nat.le_trans h.z hz, fun j u c' h1 h2 => ?_⟩
  · rw [vfl_app, List.length_append]
    have e : vfl [c] = c.toList := by simp [vfl]
    rw [e]
    exact ho
  · intro d hd
    rcases List.mem_append.1 hd with hd | hd
    · exact h.s d hd
    · simp only [List.mem_singleton] at hd
      rw [hd]
      exact hc
  · have key : ∃ lo hi, B ≤ lo ∧ hi ≤ wx.heap.size ∧ (∀ q, v.ownBlock = some q → q < lo ∨ hi ≤ q) ∧ Ltv wx lo hi u c' := by
      rcases Nat.lt_or_ge j L.length with hj | hj
      · rw [List.getElem?_append_left hj] at h2
        exact h.i j u c' h1 h2
      · rw [List.getElem?_append_right hj] at h2
        have hj0 : j = L.length := by
          rcases Nat.eq_or_lt_of_le hj with e | e
          · exact e.symm
          · rw [List.getElem?_eq_none (by simp; omega)] at h2
            cases h2
        subst hj0
        simp at h2
        subst h2
        exact hnew u h1
    obtain ⟨lo, hi, e1, e2, e3, e4⟩ := key
    refine ⟨lo, hi, e1, Nat.le_trans e2 hz, fun q hq => ?_, e4.kp hk (fun q h1 h2 e => by rcases e3 q e with h | h <;> omega)⟩
    rcases hv with hv | hv
    · exact e3 q (by rw [← hv]; exact hq)
    · rw [hv] at hq
      injection hq with hq
      subst hq
      exact .inr e2
/-- What LendValues gives. -/
structure LvP (w w' : World) (is : List Tv) (gi ci : Nat) (L : List (Array Value)) : Prop where
  o : w'.ownsRow w.heap.size 29 13 (.slice (some ⟨gi, 0, none⟩) (is.length + 9) ci) (is.length + 9) (vfl (L ++ List.replicate 9 mv))
  n : L.length = is.length
  s : ∀ c ∈ L, c.size = 13
  i : ∀ (j : Nat) (u : Tv) (c : Array Value), is[j]? = some u → L[j]? = some c → Ltv w' w.heap.size w'.heap.size u c
  b : Below w.heap.size w w'
theorem one_mv : one13 mv := ⟨rfl, fun u hu => by
  simp only [mv, List.mem_cons, List.not_mem_nil, or_false] at hu
  rcases hu with rfl | rfl | rfl | rfl | rfl | rfl | rfl | rfl | rfl | rfl | rfl | rfl | rfl <;> rfl⟩
theorem tmuchL_mem : ∀ {l : List Tv} {t : Tv}, t ∈ l → tmuch t ≤ tmuchL l
  | [], _, h => by cases h
  | u :: r, t, h => by
    rw [tmuchL]
    rcases List.mem_cons.1 h with h | h
    · subst h
      omega
    · have := tmuchL_mem h
      omega
theorem tmuchL_len : ∀ l : List Tv, l.length ≤ tmuchL l
  | [] => by simp
  | u :: r => by
    have := tmuchL_len r
    have := tmuch_eq u
    rw [tmuchL, List.length_cons]
    omega
end
section
open Go.RowKit Go
/-- What LendValue has in hand: its argument's block, the result's, the copy's. -/
structure Lw (w wx : World) (c0 c2 : Array Value) : Prop where
  a : wx.heap[w.heap.size]? = some (.cells c0 29 (0, 0))
  r : wx.heap[w.heap.size + 1]? = some (.cells zv 29 (0, 0))
  x : wx.heap[w.heap.size + 1 + 1]? = some (.cells c2 29 (0, 0))
  b : Below w.heap.size w wx
theorem Lw.start (w : World) (c : Array Value) : Lw w (((w.alloc (.cells c 29)).alloc (.cells zv 29)).alloc (.cells c 29)) c c := by
  have h1 := heap_alloc_new w (.cells c 29)
  have e1 : (w.alloc (.cells c 29)).heap.size = w.heap.size + 1 := by simp
  have h2 := heap_alloc_new (w.alloc (.cells c 29)) (.cells zv 29)
  have e2 : ((w.alloc (.cells c 29)).alloc (.cells zv 29)).heap.size = w.heap.size + 1 + 1 := by simp
  have h3 := heap_alloc_new ((w.alloc (.cells c 29)).alloc (.cells zv 29)) (.cells c 29)
  rw [e1] at h2
  rw [e2] at h3
  have b1 := below_alloc4 w (.cells c 29)
  have b2 := below_alloc4 (w.alloc (.cells c 29)) (.cells zv 29)
  have b3 := below_alloc4 ((w.alloc (.cells c 29)).alloc (.cells zv 29)) (.cells c 29)
  exact ⟨blk_alloc _ (blk_alloc _ h1), blk_alloc _ h2, h3, (b1.trans (b2.mono b1.size)).trans (b3.mono (Nat.le_trans b1.size b2.size))⟩
theorem Lw.next {w wx wy : World} {c0 c2 : Array Value} (h : Lw w wx c0 c2) (hb : Below wx.heap.size wx wy) : Lw w wy c0 c2 :=
  ⟨(hb.block _ (blk_lt h.a)).trans h.a, (hb.block _ (blk_lt h.r)).trans h.r, (hb.block _ (blk_lt h.x)).trans h.x, h.b.trans (hb.mono h.b.size)⟩
theorem Lw.set {w wx : World} {c0 c2 : Array Value} (h : Lw w wx c0 c2) (j : Nat) (v : Value) : Lw w (wx.setCell ⟨w.heap.size + 1 + 1, j, none⟩ v) c0 (c2.setIfInBounds j v) ∧ Kp (fun q => q = w.heap.size + 1 + 1) wx (wx.setCell ⟨w.heap.size + 1 + 1, j, none⟩ v) := by
  have hk : Kp (fun q => q = w.heap.size + 1 + 1) wx (wx.setCell ⟨w.heap.size + 1 + 1, j, none⟩ v) := (Kp.refl _ _).setCell _ _ (fun _ => rfl)
  exact ⟨⟨blk_other j v h.a (by omega), blk_other j v h.r (by omega), blk_set j v h.x, h.b.trans (hk.below h.b.size (fun q e => by omega))⟩, hk⟩
theorem sl_blk {g n c q : Nat} (h : (Value.slice (some ⟨g, 0, none⟩) n c).ownBlock = some q) : q = g := by
  injection h with h
  exact h.symm
theorem setv (t : Tv) (vy vk vi x : Value) : (vcs t vy vk vi).setIfInBounds 6 x = vcs t x vk vi ∧ (vcs t vy vk vi).setIfInBounds 11 x = vcs t vy x vi ∧ (vcs t vy vk vi).setIfInBounds 12 x = vcs t vy vk x := ⟨rfl, rfl, rfl⟩
end
end Go.Proofs.YtibcepokeaaoiabDoor
