import Derived.Test.YtadilnmkjcmnnaaGreatDoorJh
import Derived.Test.YtadilnmkjcmnnaaGreatDoorJa
import Derived.Test.YtadilnmkjcmnnaaGreatDoorJe
import Derived.Great.BuildSlice
import Derived.Great.FillDense
import Derived.Maps.AppendAt
namespace Go.Proofs.YtadilnmkjcmnnaaGreatDoor
section
open Go.RowKit Go
/-- What Much tells. -/
structure Muc (is : List Tv) (most r : Nat) : Prop where
  le : r ≤ most + 1125899906842624
  eq : r ≤ most → r = tmuchL is
  gt : most < r → most < tmuchL is
theorem sum_take_le : ∀ (l : List Nat) (k : Nat), (l.take k).sum ≤ l.sum
  | [], k => by simp
  | x :: l, 0 => by simp
  | x :: l, k + 1 => by
    have := sum_take_le l k
    simp only [List.take_succ_cons, List.sum_cons]
    omega
theorem sum_take_succ (l : List Nat) (k : Nat) (h : k < l.length) : (l.take (k + 1)).sum = (l.take k).sum + l.getD k 0 := by
  rw [List.take_succ_eq_append_getElem h, List.sum_append, List.getD_eq_getElem?_getD, List.getElem?_eq_getElem h]
  simp
theorem tmuchL_take_le (l : List Tv) (i : Nat) : tmuchL (l.take i) ≤ tmuchL l := by
  have h := tmuchL_app (l.take i) (l.drop i)
  rw [List.take_append_drop] at h
  omega
set_option maxRecDepth 1000000 in
set_option maxHeartbeats 2000000 in
theorem much_step (N : Nat) (ih : ∀ is : List Tv, SizeOf.sizeOf is < N → ∀ (w : World) (v : Value) (most : Nat), VSl w v is → most ≤ 100000 → Calls Tryz.prog 14 #[v, .int .i64 (most : Nat)] w fun e w' => ∃ r : Nat, e = .returned (.int .i64 (r : Nat)) ∧ Muc is most r ∧ Below w.heap.size w w')
    (is : List Tv) (hN : SizeOf.sizeOf is = N) (w : World) (v : Value) (most : Nat) (hv : VSl w v is) (hm : most ≤ 100000) : Calls Tryz.prog 14 #[v, .int .i64 (most : Nat)] w fun e w' => ∃ r : Nat, e = .returned (.int .i64 (r : Nat)) ∧ Muc is most r ∧ Below w.heap.size w w' := by
  have HIH := hide ih
  have HNN := hide hN
  obtain ⟨⟨a, cap, rfl, hcap, hform⟩, hmax⟩ := hv
  have HF := hide hform
  clear ih hN hcap hform
  go_enter Tryz.func14, Tryz.ntmps14
  go_wp2_with fail
  go_loopw [5, 6] (fun nn ii wx => ∃ i n : Nat, i ≤ is.length ∧ nn = .int .i64 (n : Nat) ∧ ii = .int .i64 (i : Nat) ∧ Hid (Muc (is.take i) most n) ∧ Hid (Below w.heap.size w wx)) (fun _ ii _ => is.length - (intOf ii).toNat)
  case atStart => exact ⟨0, 0, by omega, rfl, rfl, ⟨by omega, fun _ => by simp [tmuchL], fun h => by omega⟩, Below.refl _ _⟩
  case round =>
    obtain ⟨i, n, hi, rfl, rfl, HM, HBw⟩ := hrel
    by_cases hlt : i < is.length
    · have g1 : (i : Int) < (is.length : Int) := by omega
      by_cases hle : n ≤ most
      · have g2 : (n : Int) ≤ (most : Int) := by omega
        obtain ⟨u, hu⟩ : ∃ u, is[i]? = some u := ⟨is[i], List.getElem?_eq_getElem hlt⟩
        obtain ⟨b, off, rfl, hcells⟩ := HF.out.resolve_left (fun h => by rw [h] at hlt; simp at hlt)
        obtain ⟨cu, hcu, hcc⟩ := hcells i u hu
        have HU := hide hcu
        obtain ⟨vy, vk, vi, rfl, hy, hk, hv, hbd⟩ := hcu.parts
        have HTK := hide (takeT _ _ _ hu)
        have HME := hide (tmuch_eq u)
        have HMT : Hid (tmuchL (is.take (i + 1)) = n + tmuch u) := by
          show _ = _
          rw [HTK.out, tmuchL_app, ← HM.out.eq hle]
          simp [tmuchL]
        have hmem := List.mem_of_getElem? hu
        have HLT : Hid (SizeOf.sizeOf u.is < N) := by
          show _ < _
          rw [← HNN.out]
          have h1 := List.sizeOf_lt_of_mem hmem
          obtain ⟨k, f, g, n, b, s, y, l, ks, is'⟩ := u
          simp only [Tv.is, Tv.mk.sizeOf_spec] at h1 ⊢
          omega
        have HVI := hide hv
        have HKS := hide hk
        obtain ⟨⟨ay, cy, rfl, _, _⟩, _, _⟩ := hy
        obtain ⟨⟨ak, ck, rfl, _, hkform⟩, hkmax, hksize⟩ := hk
        obtain ⟨⟨ai, ci, rfl, _, _⟩, _⟩ := hv
        have HKF := hide hkform
        have HCX : Hid (∀ wx, Below w.heap.size w wx → wx.cell? ⟨b, off + i * 13 + 11, none⟩ = some (.slice ak u.ks.length ck) ∧ wx.cell? ⟨b, off + i * 13 + 6, none⟩ = some (.slice ay u.y.length cy) ∧ wx.cell? ⟨b, off + i * 13 + 5, none⟩ = some (.string u.s) ∧ wx.cell? ⟨b, off + i * 13 + 10, none⟩ = some (.string (nstr u.l.d)) ∧ wx.cell? ⟨b, off + i * 13 + 12, none⟩ = some (.slice ai u.is.length ci)) := fun wx hb => ⟨keep_below hb _ _ (hcc 11 _ rfl), keep_below hb _ _ (hcc 6 _ rfl), keep_below hb _ _ (hcc 5 _ rfl), keep_below hb _ _ (hcc 10 _ rfl), keep_below hb _ _ (hcc 12 _ rfl)⟩
        have hds : (nstr u.l.d).size = u.l.d.length := nstr_size hbd.l.d
        have hbs := hbd.s
        have hby := hbd.y
        have hbl := hbd.d
        obtain ⟨c11, c6, c5, c10, _⟩ := HCX.out _ HBw.out
        clear hcells hcc hu hcu hbd hkform hmem HTK
        have ey : (u.y.length : Int) / 64 = ((u.y.length / 64 : Nat) : Int) := by omega
        have es : (u.s.size : Int) / 64 = ((u.s.size / 64 : Nat) : Int) := by omega
        have ed : (u.l.d.length : Int) / 64 = ((u.l.d.length / 64 : Nat) : Int) := by omega
        have hqy : u.y.length / 64 ≤ 2199023255552 := by omega
        have hqs : u.s.size / 64 ≤ 2199023255552 := by omega
        have hqd : u.l.d.length / 64 ≤ 2199023255552 := by omega
        generalize hqy' : u.y.length / 64 = qy at *
        generalize hqs' : u.s.size / 64 = qs at *
        generalize hqd' : u.l.d.length / 64 = qd at *
        clear hqy' hqs' hqd'
        go_wp2_with fail
        go_region
        go_wp2_with fail
        have HB1 : Hid (Below w.heap.size w wr.drew) := HBw.out.drew
        have HSL : Hid ((u.ks.map fun k => k.size / 64).length = u.ks.length) := List.length_map ..
        have HSS : Hid (∀ k s, u.ks[k]? = some s → (u.ks.map fun k => k.size / 64).getD k 0 = s.size / 64) := fun k s h => by
          rw [List.getD_eq_getElem?_getD, List.getElem?_map, h]
          rfl
        generalize (u.ks.map fun k => k.size / 64) = zs at *
        clear c11 c6 c5 c10 HBw hds ey es ed
        have hn1 : (n : Int) + 1 + (u.ks.length : Int) + (qy : Int) + (qs : Int) + (qd : Int) = ((n + 1 + u.ks.length + qy + qs + qd : Nat) : Int) := by omega
        rw [hn1]
        have hN1b : n + 1 + u.ks.length + qy + qs + qd ≤ most + 562949953421312 := by omega
        have HN1 : Hid (n + 1 + u.ks.length + qy + qs + qd = n + tmuch u - zs.sum - tmuchL u.is ∧ zs.sum + tmuchL u.is ≤ tmuch u) := by
          have := HME.out
          exact ⟨by omega, by omega⟩
        clear hn1
        generalize n + 1 + u.ks.length + qy + qs + qd = N1 at *
        go_loopw [5, 7] (fun nn kk wx => ∃ k m : Nat, k ≤ u.ks.length ∧ m ≤ most + 562949953421312 ∧ nn = .int .i64 (m : Nat) ∧ kk = .int .i64 (k : Nat) ∧ Hid (m = N1 + (zs.take k).sum) ∧ Hid (Below w.heap.size w wx)) (fun _ kk _ => u.ks.length - (intOf kk).toNat)
        case atStart => exact ⟨0, N1, by omega, hN1b, rfl, rfl, by show _ = _; simp, HB1⟩
        case round => as_aux_lemma =>
          rename World => wz
          obtain ⟨k, m, hk, hmb, rfl, rfl, HMS, HBz⟩ := hrel
          clear HB1
          obtain ⟨c11, _, _, _, c12⟩ := HCX.out _ HBz.out
          have HEND : Hid ((k = u.ks.length ∨ most < m) → ∃ wy : World, wy = wz) := fun _ => ⟨wz, rfl⟩
          clear HEND
          by_cases hkl : k < u.ks.length
          · have g3 : (k : Int) < (u.ks.length : Int) := by omega
            by_cases hml : m ≤ most
            · have g4 : (m : Int) ≤ (most : Int) := by omega
              obtain ⟨s, hs⟩ : ∃ s, u.ks[k]? = some s := ⟨u.ks[k], List.getElem?_eq_getElem hkl⟩
              obtain ⟨bk, ok, rfl, hkc⟩ := HKF.out.resolve_left (fun h => by rw [h] at hkl; simp at hkl)
              have ck := keep_below HBz.out _ _ (hkc k s hs)
              have hss := hksize s (List.mem_of_getElem? hs)
              have HSU : Hid ((zs.take (k + 1)).sum = (zs.take k).sum + s.size / 64) := by
                show _ = _
                rw [sum_take_succ zs k (by rw [HSL.out]; exact hkl), HSS.out k s hs]
              have eq : (s.size : Int) / 64 = ((s.size / 64 : Nat) : Int) := by omega
              have hqb : s.size / 64 ≤ 2199023255552 := by omega
              clear hs hkc hksize
              generalize s.size / 64 = q at *
              have HM2 : Hid (m + q = N1 + (zs.take (k + 1)).sum) := by have := HMS.out; have := HSU.out; show _ = _; omega
              go_wp2_with fail
              go_roundw
              case rel => exact ⟨k + 1, m + q, by omega, by omega, by go_num, by go_num, HM2, HBz⟩
              case measure => simp [intOf]; omega
            · have g4 : ¬ (m : Int) ≤ (most : Int) := by omega
              have HMU : Hid (Muc (is.take (i + 1)) most m) := by
                have h1 := HMS.out
                have h2 := HN1.out
                have h3 := HMT.out
                have h4 := sum_take_le zs k
                exact ⟨by omega, fun h => by omega, fun _ => by omega⟩
              go_wp2_with fail
              go_roundw
              case rel => exact ⟨i + 1, m, by omega, rfl, by go_num, HMU, HBz⟩
              case measure => simp [intOf]; omega
          · have g3 : ¬ (k : Int) < (u.ks.length : Int) := by omega
            have HFU : Hid (m = N1 + zs.sum) := by
              have h := HMS.out
              rw [List.take_of_length_le (by rw [HSL.out]; omega)] at h
              exact h
            by_cases hml : m ≤ most
            · have g4 : (m : Int) ≤ (most : Int) := by omega
              have e1 : (most : Int) - (m : Int) = ((most - m : Nat) : Int) := by omega
              have HCA := hide (HIH.out u.is HLT.out wz _ (most - m) (HVI.out.move (keep_below HBz.out)) (by omega))
              have HSUM : Hid (∀ r, Muc u.is (most - m) r → Muc (is.take (i + 1)) most (m + r)) := fun r hr => by
                have h1 := HFU.out
                have h2 := HN1.out
                have h3 := HMT.out
                have h4 := hr.le
                have h5 := hr.eq
                have h6 := hr.gt
                exact ⟨by omega, fun h => by have := h5 (by omega); omega, fun h => by have := h6 (by omega); omega⟩
              have HRL : Hid (∀ r, Muc u.is (most - m) r → r ≤ 1125899906942624) := fun r hr => by have := hr.le; show _ ≤ _; omega
              generalize most - m = rest at *
              go_wp2_with fail
              refine HCA.out.mono ?_
              rintro e w5 ⟨r, rfl, hmu, hb5⟩
              have HB5 : Hid (Below w.heap.size w w5) := HBz.out.trans (hb5.mono HBz.out.size)
              have HM5 := hide (HSUM.out r hmu)
              have hr5 := HRL.out r hmu
              clear hb5 hmu HCA HSUM HRL
              go_wp2_with fail
              go_roundw
              case rel => exact ⟨i + 1, m + r, by omega, by go_num, by go_num, HM5, HB5⟩
              case measure => simp [intOf]; omega
            · have g4 : ¬ (m : Int) ≤ (most : Int) := by omega
              have HMU : Hid (Muc (is.take (i + 1)) most m) := by
                have h1 := HFU.out
                have h2 := HN1.out
                have h3 := HMT.out
                exact ⟨by omega, fun h => by omega, fun _ => by omega⟩
              go_wp2_with fail
              go_roundw
              case rel => exact ⟨i + 1, m, by omega, rfl, by go_num, HMU, HBz⟩
              case measure => simp [intOf]; omega
      · as_aux_lemma =>
        have g2 : ¬ (n : Int) ≤ (most : Int) := by omega
        have HMU : Hid (Muc is most n) := by
          have h1 := HM.out.le
          have h2 := HM.out.gt
          have h3 := tmuchL_take_le is i
          exact ⟨by omega, fun h => by omega, fun h => by have := h2 h; omega⟩
        go_wp2_with fail
        go_ret
        exact ⟨n, rfl, HMU.out, HBw.out⟩
    · as_aux_lemma =>
      have g1 : ¬ (i : Int) < (is.length : Int) := by omega
      have HMU : Hid (Muc is most n) := by
        have h := HM.out
        rw [List.take_of_length_le (by omega)] at h
        exact h
      go_wp2_with fail
      go_ret
      exact ⟨n, rfl, HMU.out, HBw.out⟩
theorem much_any (is : List Tv) (w : World) (v : Value) (most : Nat) (hv : VSl w v is) (hm : most ≤ 100000) : Calls Tryz.prog 14 #[v, .int .i64 (most : Nat)] w fun e w' => ∃ r : Nat, e = .returned (.int .i64 (r : Nat)) ∧ Muc is most r ∧ Below w.heap.size w w' := by
  have h : ∀ N, ∀ is : List Tv, SizeOf.sizeOf is = N → ∀ (w : World) (v : Value) (most : Nat), VSl w v is → most ≤ 100000 → Calls Tryz.prog 14 #[v, .int .i64 (most : Nat)] w fun e w' => ∃ r : Nat, e = .returned (.int .i64 (r : Nat)) ∧ Muc is most r ∧ Below w.heap.size w w' := by
    intro N
    induction N using Nat.strongRecOn with
    | _ N ih => exact fun is hN w v most hv hm => much_step N (fun u hu => ih _ hu u rfl) is hN w v most hv hm
  exact h _ is rfl w v most hv hm
end
section
open Go.RowKit Go
/-- Texts as cells. -/
def sv (ks : List ByteArray) : List Value := ks.map fun s => .string s
theorem sv_len (ks : List ByteArray) : (sv ks).length = ks.length := by simp [sv]
theorem sv_app (a b : List ByteArray) : sv (a ++ b) = sv a ++ sv b := by simp [sv]
theorem sv_get {ks : List ByteArray} {j : Nat} {s : ByteArray} (h : ks[j]? = some s) : (sv ks)[j]? = some (.string s) := by simp [sv, h]
theorem sv_one (ks : List ByteArray) : ∀ u ∈ sv ks, u.oneCell' = true := by
  intro u hu
  simp only [sv, List.mem_map] at hu
  obtain ⟨_, _, rfl⟩ := hu
  rfl
theorem info9_ex : ∃ i, Tryz.prog.info? 9 = some i ∧ i.zero = some (.string ⟨#[]⟩) ∧ i.size = 1 ∧ i.bytes = 16 := by
  have h : (Tryz.prog.info? 9).map (fun i => (i.zero, i.size, i.bytes)) = some (some (.string ⟨#[]⟩), 1, 16) := by kernel_rfl
  cases hi : Tryz.prog.info? 9 with
  | none => rw [hi] at h; cases h
  | some i =>
    rw [hi] at h
    injection h with h
    injection h with h1 h2
    injection h2 with h2 h3
    exact ⟨i, rfl, h1, h2, h3⟩
set_option maxRecDepth 1000000 in
/-- 'append(l, x...)' of texts. -/
theorem append_ssl {ops : Array Oper} {rest : List Oper} {o : Oper} {a : Act} {Q : Exit → Act → World → Prop} {w : World} (hgd : o.guard = none) (s x : Operand)
    (ho : o.op = .call { callee := .builtin .append, args := #[s, x], argTypes := #[60, 60] }) (B : Nat) (v : Value) (n : Nat) (ds : List ByteArray) (hs : a.eval s = v) (hown : w.ownsRow B 9 1 v n (sv ds))
    (u : Value) (es : List ByteArray) (hx : a.eval x = u) (hu : SSl w u es) (hlen : n + es.length < 1099511627776) (hbase : B ≤ w.heap.size)
    (h : ∀ v' w', w'.ownsRow B 9 1 v' (n + es.length) (sv (ds ++ es)) → w.grownBy w' v.ownBlock → wpList Tryz.prog ops Q rest (a.put o.dst v') w') : wpList Tryz.prog ops Q (o :: rest) a w := by
  obtain ⟨i, hi, hz0, hz1, hz2⟩ := info9_ex
  obtain ⟨⟨ad, cap, rfl, hn, hc⟩, hmax, _⟩ := hu
  cases ad with
  | none =>
    have hc0 := hn.2 rfl
    have he : es = [] := List.length_eq_zero_iff.1 (by omega)
    subst hc0
    subst he
    refine wpList_append_own_none hgd s x 60 ho B 9 i 1 Tryz.underlying60 hi v n (sv ds) hs hown hx (h v w ?_ ⟨rfl, rfl, rfl, Nat.le_refl _, fun _ _ _ => rfl⟩)
    simpa using hown
  | some ad =>
    refine wpList_append_own_at w hgd s x 60 ho B 9 i (.string ⟨#[]⟩) 1 16 Tryz.underlying60 hi hz0 hz1 hz2 rfl (by decide) v n (sv ds) hs hown ad es.length cap (sv es) hx (by rw [sv_len, Nat.mul_one]) (fun j u hu => ?_) (sv_one es) (by unfold maxLen; omega) (by omega) hbase fun v' w' h1 h2 _ _ => h v' w' (by rw [sv_app]; exact h1) h2
    have hjl : j < es.length := by
      rcases Nat.lt_or_ge j es.length with h | h
      · exact h
      · rw [List.getElem?_eq_none (by rw [sv_len]; exact h)] at hu
        cases hu
    rcases hc with hc | ⟨b, off, e, hc⟩
    · rw [hc] at hjl
      simp at hjl
    · injection e with e
      subst e
      rw [sv_get (List.getElem?_eq_getElem hjl)] at hu
      injection hu with hu
      rw [addr_add, hc j _ (List.getElem?_eq_getElem hjl), hu]
/-- One text, fresh. -/
theorem one_ssl (w : World) (s : ByteArray) (hs : s.size ≤ 140737488351232) : SSl (w.alloc (.cells #[.string s] 9)) (.slice (some ⟨w.heap.size, 0, none⟩) 1 1) [s] := by
  refine ⟨⟨_, 1, rfl, ⟨by simp, fun h => by cases h⟩, .inr ⟨w.heap.size, 0, rfl, fun j t hj => ?_⟩⟩, by simp, by simpa using hs⟩
  match j, hj with
  | 0, hj =>
    simp at hj
    subst hj
    exact blk_cell (heap_alloc_new w _) rfl
  | j + 1, hj => simp at hj
def mk9 : ByteArray := ⟨#[109, 97, 114, 107]⟩
/-- Texts lent. -/
structure Lts (w : World) (base : Nat) (v : Value) (ks : List ByteArray) : Prop where
  own : ∃ g cap, v = .slice (some ⟨g, 0, none⟩) ks.length cap ∧ w.ownsRow base 9 1 (.slice (some ⟨g, 0, none⟩) (ks.length + 9) cap) (ks.length + 9) (sv (ks ++ List.replicate 9 mk9))
  len : ks.length ≤ 100000
  size : ∀ s ∈ ks, s.size ≤ 140737488351232
theorem Lts.below {w w' : World} {base : Nat} {v : Value} {ks : List ByteArray} (h : Lts w base v ks) (hb : Below w.heap.size w w') : Lts w' base v ks := by
  obtain ⟨⟨g, cap, hv, ho⟩, h1, h2⟩ := h
  exact ⟨⟨g, cap, hv, (Kp.of_below (S := fun _ => False) hb).owns ho (fun _ _ hf => hf)⟩, h1, h2⟩
end
section
open Go.RowKit Go
theorem Lts.cell {w : World} {base g cap : Nat} {ks : List ByteArray} (h : w.ownsRow base 9 1 (.slice (some ⟨g, 0, none⟩) (ks.length + 9) cap) (ks.length + 9) (sv (ks ++ List.replicate 9 mk9))) : (∀ j s, ks[j]? = some s → w.cell? ⟨g, j, none⟩ = some (.string s)) ∧ (∀ j, j < 9 → w.cell? ⟨g, ks.length + j, none⟩ = some (.string mk9)) ∧ ks.length + 9 ≤ cap := by
  refine ⟨fun j s hj => ?_, fun j hj => ?_, ?_⟩
  · refine (own_cell h (sv_get ?_)).1
    rw [List.getElem?_append_left (List.getElem?_eq_some_iff.1 hj).1]
    exact hj
  · refine (own_cell h (sv_get ?_)).1
    rw [List.getElem?_append_right (by omega), Nat.add_sub_cancel_left, List.getElem?_replicate_of_lt hj]
  · rcases h.2 with ⟨hv, _⟩ | ⟨g', cap', cur, hv, _, _, h1, _⟩
    · cases hv
    · injection hv with _ _ e
      subst e
      exact h1
end
section
open Go.RowKit Go
/-- The cells of values in a row. -/
def vfl (l : List (Array Value)) : List Value := l.flatMap (·.toList)
theorem vfl_app (a b : List (Array Value)) : vfl (a ++ b) = vfl a ++ vfl b := by simp [vfl]
theorem vfl_len : ∀ {l : List (Array Value)}, (∀ c ∈ l, c.size = 13) → (vfl l).length = l.length * 13
  | [], _ => rfl
  | c :: l, h => by
    have h1 := vfl_len (l := l) (fun d hd => h d (List.mem_cons_of_mem _ hd))
    have h2 := h c (List.mem_cons_self ..)
    have e : vfl (c :: l) = c.toList ++ vfl l := by simp [vfl]
    rw [e, List.length_append, h1, List.length_cons, Array.length_toList, h2]
    omega
theorem vfl_get : ∀ {l : List (Array Value)}, (∀ c ∈ l, c.size = 13) → ∀ (k : Nat) (c : Array Value) (j : Nat) (u : Value), l[k]? = some c → c[j]? = some u → (vfl l)[k * 13 + j]? = some u
  | [], _, k, c, j, u, h, _ => by simp at h
  | d :: l, hs, 0, c, j, u, h, hu => by
    simp at h
    subst h
    have e : vfl (d :: l) = d.toList ++ vfl l := by simp [vfl]
    have hj : j < d.size := (Array.getElem?_eq_some_iff.1 hu).1
    rw [e, List.getElem?_append_left (by simpa using hj)]
    simpa using hu
  | d :: l, hs, k + 1, c, j, u, h, hu => by
    simp at h
    have e : vfl (d :: l) = d.toList ++ vfl l := by simp [vfl]
    have h13 : d.toList.length = 13 := by rw [Array.length_toList]; exact hs d (List.mem_cons_self ..)
    rw [e, List.getElem?_append_right (by omega)]
    have e2 : (k + 1) * 13 + j - d.toList.length = k * 13 + j := by omega
    rw [e2]
    exact vfl_get (fun d hd => hs d (List.mem_cons_of_mem _ hd)) k c j u h hu
/-- The zero value's cells, and those of a mark. -/
def zv : Array Value := #[.int .i64 0, .bool false, .bool false, .int .u64 0, .int .u64 0, .string ⟨#[]⟩, .slice none 0 0, .int .i64 0, .int .u64 0, .int .u64 0, .string ⟨#[]⟩, .slice none 0 0, .slice none 0 0]
def mv : Array Value := #[.int .i64 777, .bool false, .bool false, .int .u64 0, .int .u64 0, .string ⟨#[]⟩, .slice none 0 0, .int .i64 0, .int .u64 0, .int .u64 0, .string ⟨#[]⟩, .slice none 0 0, .slice none 0 0]
theorem infoV_ex : ∃ i, Tryz.prog.info? 62 = some i ∧ i.zero = some (.agg zv) ∧ i.size = 13 ∧ i.bytes = 160 := by
  have h : (Tryz.prog.info? 62).map (fun i => (i.zero, i.size, i.bytes)) = some (some (.agg zv), 13, 160) := by kernel_rfl
  cases hi : Tryz.prog.info? 62 with
  | none => rw [hi] at h; cases h
  | some i =>
    rw [hi] at h
    injection h with h
    injection h with h1 h2
    injection h2 with h2 h3
    exact ⟨i, rfl, h1, h2, h3⟩
/-- Cells that lie in a row of values: each one cell. -/
def one13 (c : Array Value) : Prop := c.size = 13 ∧ ∀ u ∈ c.toList, u.oneCell' = true
theorem fill_one (c cells : Array Value) (h : c.size = 13) (hc : cells.size = 13) : Instr.fill (fun i => some (i * 13, 13)) cells [(0, .agg c)] = some c := by
  obtain ⟨r, hr, hsz, hk⟩ := Great.fill_dense (s := 13) (by decide) [.agg c] 0 cells (by
    intro v hv
    simp only [List.mem_singleton] at hv
    subst hv
    simpa [Value.cells] using h) (by simp; omega)
  have e : r = c := by
    apply Array.ext_getElem?
    intro k
    rw [hk k]
    by_cases h1 : k < 13
    · rw [if_pos ⟨by omega, by simp; omega⟩]
      simp [Value.cells, Nat.div_eq_of_lt h1, Nat.mod_eq_of_lt h1]
    · rw [if_neg (by simp; omega), Array.getElem?_eq_none (by omega), Array.getElem?_eq_none (by omega)]
  rw [e] at hr
  exact hr
theorem wpList_val1 {ops : Array Oper} {rest : List Oper} {o : Oper} {a : Act} {w : World} {Q : Exit → Act → World → Prop} {x0 : Operand} (hg : o.guard = none) (ho : o.op = .buildSlice 54 1 #[(0, x0)]) (c : Array Value) (hc : c.size = 13)
    (h0 : a.eval x0 = .agg c)
    (h : wpList Tryz.prog ops Q rest (a.put o.dst (.slice (some ⟨w.heap.size, 0, none⟩) 1 1)) (w.alloc (.cells c 62))) : wpList Tryz.prog ops Q (o :: rest) a w := by
  obtain ⟨i, hi, hz, hs, _⟩ := infoV_ex
  refine wpList_buildSlice hg 54 62 1 _ ho c i _ Tryz.underlying54 hi hz (by rw [hs]; decide) (by rw [hs]; decide) ?_ h
  rw [hs]
  have e : ((#[(0, x0)] : Array (Nat × Operand)).map fun (i, x) => (i, a.eval x)).toList = [(0, .agg c)] := by simp [h0]
  rw [e]
  exact fill_one c _ hc (by simp)
/-- append of one value. -/
theorem append_val {ops : Array Oper} {rest : List Oper} {o : Oper} {a : Act} {Q : Exit → Act → World → Prop} {w : World} (hgd : o.guard = none) (s x : Operand)
    (ho : o.op = .call { callee := .builtin .append, args := #[s, x], argTypes := #[54, 54] }) (B : Nat) (v : Value) (n : Nat) (ds : List Value) (hs : a.eval s = v) (hown : w.ownsRow B 62 13 v n ds)
    (g : Nat) (c : Array Value) (h13 : one13 c) (hx : a.eval x = .slice (some ⟨g, 0, none⟩) 1 1) (hg : w.heap[g]? = some (.cells c 62 (0, 0))) (hlen : n < 1099511627) (hbase : B ≤ w.heap.size)
    (h : ∀ v' w', w'.ownsRow B 62 13 v' (n + 1) (ds ++ c.toList) → w.grownBy w' v.ownBlock → (v'.ownBlock = v.ownBlock ∨ v'.ownBlock = some w.heap.size) → wpList Tryz.prog ops Q rest (a.put o.dst v') w') : wpList Tryz.prog ops Q (o :: rest) a w := by
  obtain ⟨i, hi, hz0, hz1, hz2⟩ := infoV_ex
  refine wpList_append_own_at w hgd s x 54 ho B 62 i _ 13 160 Tryz.underlying54 hi hz0 hz1 hz2 rfl (by decide) v n ds hs hown ⟨g, 0, none⟩ 1 1 c.toList hx (by rw [Array.length_toList, h13.1]) (fun j u hu => ?_) h13.2 (by unfold maxLen; omega) (by omega) hbase fun v' w' h1 h2 _ h4 => h v' w' h1 h2 ?_
  · have hadd : (⟨g, 0, none⟩ : Addr).add j = ⟨g, j, none⟩ := by unfold Addr.add; split <;> simp_all
    rw [hadd]
    exact blk_cell hg (by simpa using hu)
  · exact h4
/-- A value lent: each of its rows lies in blocks of its own from lo on and below hi, with marks behind it. -/
inductive Ltv (w : World) (lo hi : Nat) : Tv → Array Value → Prop
  | mk (t : Tv) (gy cy gk ck gi ci : Nat) (L : List (Array Value)) (hbd : Tbd t) (hy : Lnt w lo gy cy t.y) (hgy : gy < hi) (hk : w.ownsRow lo 9 1 (.slice (some ⟨gk, 0, none⟩) (t.ks.length + 9) ck) (t.ks.length + 9) (sv (t.ks ++ List.replicate 9 mk9))) (hgk : gk < hi) (hkl : t.ks.length ≤ 100000) (hks : ∀ s ∈ t.ks, s.size ≤ 140737488351232)
      (hv : w.ownsRow lo 62 13 (.slice (some ⟨gi, 0, none⟩) (t.is.length + 9) ci) (t.is.length + 9) (vfl (L ++ List.replicate 9 mv))) (hgi : gi < hi) (hil : t.is.length ≤ 100000) (hL : L.length = t.is.length) (h13 : ∀ c ∈ L, c.size = 13) (hcs : ∀ (i : Nat) (u : Tv) (c : Array Value), t.is[i]? = some u → L[i]? = some c → Ltv w lo hi u c) :
      Ltv w lo hi t (vcs t (.slice (some ⟨gy, 0, none⟩) t.y.length cy) (.slice (some ⟨gk, 0, none⟩) t.ks.length ck) (.slice (some ⟨gi, 0, none⟩) t.is.length ci))
theorem Ltv.size {w : World} {lo hi : Nat} {t : Tv} {c : Array Value} (h : Ltv w lo hi t c) : c.size = 13 := by
  cases h
  rfl
theorem Lnt.mono {w : World} {b b' g cap : Nat} {xs : List Nat} (h : Lnt w b g cap xs) (hb : b' ≤ b) : Lnt w b' g cap xs := ⟨own_mono h.own hb, h.byte, h.len⟩
theorem Ltv.kp {w w' : World} {lo hi : Nat} {t : Tv} {c : Array Value} {S : Nat → Prop} (h : Ltv w lo hi t c) (hk : Kp S w w') (hs : ∀ q, lo ≤ q → q < hi → ¬ S q) : Ltv w' lo hi t c := by
  induction h with
  | mk t gy cy gk ck gi ci L hbd hy hgy hkk hgk hkl hks hv hgi hil hL h13 _ ih =>
    have e1 := (hy.own.lt gy rfl).1
    have e2 := (hkk.lt gk rfl).1
    have e3 := (hv.lt gi rfl).1
    exact Ltv.mk t gy cy gk ck gi ci L hbd (hy.kp hk (hs gy e1 hgy)) hgy (hk.owns hkk (fun q hq => by injection hq with hq; subst hq; exact hs _ e2 hgk)) hgk hkl hks (hk.owns hv (fun q hq => by injection hq with hq; subst hq; exact hs _ e3 hgi)) hgi hil hL h13 ih
theorem Ltv.kept {w w' : World} {lo hi : Nat} {t : Tv} {c : Array Value} (h : Ltv w lo hi t c) (hb : Below w.heap.size w w') : Ltv w' lo hi t c := h.kp (Kp.of_below (S := fun _ => False) hb) (fun _ _ _ h => h)
theorem Ltv.mono {w : World} {lo hi lo' hi' : Nat} {t : Tv} {c : Array Value} (h : Ltv w lo hi t c) (h1 : lo' ≤ lo) (h2 : hi ≤ hi') : Ltv w lo' hi' t c := by
  induction h with
  | mk t gy cy gk ck gi ci L hbd hy hgy hkk hgk hkl hks hv hgi hil hL h13 _ ih =>
    exact Ltv.mk t gy cy gk ck gi ci L hbd (hy.mono h1) (by omega) (own_mono hkk h1) (by omega) hkl hks (own_mono hv h1) (by omega) hil hL h13 ih
theorem ssl_lent {w : World} {lo g cap : Nat} {ks : List ByteArray} (h : w.ownsRow lo 9 1 (.slice (some ⟨g, 0, none⟩) (ks.length + 9) cap) (ks.length + 9) (sv (ks ++ List.replicate 9 mk9))) (hl : ks.length ≤ 100000) (hs : ∀ s ∈ ks, s.size ≤ 140737488351232) : SSl w (.slice (some ⟨g, 0, none⟩) ks.length cap) ks := by
  obtain ⟨h1, _, h3⟩ := Lts.cell h
  refine ⟨⟨_, cap, rfl, ⟨by omega, fun h => by cases h⟩, .inr ⟨g, 0, rfl, fun j s hj => ?_⟩⟩, by omega, hs⟩
  rw [Nat.zero_add]
  exact h1 j s hj
/-- A cell of a value in a row of the call's own. -/
theorem own_val {w : World} {B g n m cap k : Nat} {l : List (Array Value)} {c : Array Value} (h : w.ownsRow B 62 13 (.slice (some ⟨g, 0, none⟩) m cap) n (vfl l)) (hl : ∀ c ∈ l, c.size = 13) (hk : l[k]? = some c) : ∀ j u, c[j]? = some u → w.cell? ⟨g, k * 13 + j, none⟩ = some u := fun j u hu => by
  have := h.cells (g := g) rfl (k * 13 + j) u (vfl_get hl k c j u hk hu)
  have hadd : (⟨g, 0, none⟩ : Addr).add (k * 13 + j) = ⟨g, k * 13 + j, none⟩ := by unfold Addr.add; split <;> simp_all
  rw [hadd] at this
  exact this
theorem all13 {L : List (Array Value)} (h : ∀ c ∈ L, c.size = 13) (k : Nat) : ∀ c ∈ L ++ List.replicate k mv, c.size = 13 := fun c hc => by
  rcases List.mem_append.1 hc with hc | hc
  · exact h c hc
  · rw [List.eq_of_mem_replicate hc]
    rfl
theorem Ltv.tin {w : World} {lo hi : Nat} {t : Tv} {c : Array Value} (h : Ltv w lo hi t c) : Tin w t c := by
  induction h with
  | mk t gy cy gk ck gi ci L hbd hy hgy hkk hgk hkl hks hv hgi hil hL h13 _ ih =>
    refine Tin.of hy.bsl (ssl_lent hkk hkl hks) ⟨⟨_, ci, rfl, ⟨?_, fun h => by cases h⟩, .inr ⟨gi, 0, rfl, fun i u hu => ?_⟩⟩, by omega⟩ hbd
    · rcases hv.2 with ⟨e, _⟩ | ⟨g', cap', cur, e, _, _, h1, _⟩
      · cases e
      · injection e with _ _ e
        subst e
        omega
    · have hil2 := (List.getElem?_eq_some_iff.1 hu).1
      have hc : L[i]? = some (L[i]'(by omega)) := List.getElem?_eq_getElem (by omega)
      refine ⟨_, ih i u _ hu hc, fun j v hj => ?_⟩
      rw [Nat.zero_add]
      refine own_val hv (all13 h13 9) ?_ j v hj
      rw [List.getElem?_append_left (by omega)]
      exact hc
end
end Go.Proofs.YtadilnmkjcmnnaaGreatDoor
