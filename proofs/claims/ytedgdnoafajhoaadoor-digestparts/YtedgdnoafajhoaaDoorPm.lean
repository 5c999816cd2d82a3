import Derived.Test.YtedgdnoafajhoaaDoorPl
import Derived.Test.YtedgdnoafajhoaaDoorLnt
namespace Go.Proofs.YtedgdnoafajhoaaDoor
open Go.RowKit Go

/-- A place, its blocks from B on and below M: fresh, or with the last row in it. -/
def Pla (w : World) (B M P : Nat) : Prop := B ≤ P ∧ P < M ∧ ((w.heap[P]? = some (.cells #[.slice none 0 0, .slice none 0 0] 26 (0, 0))) ∨ ∃ ov iv vx xs, Pls w B P ov iv vx 1 [vx] xs ∧ ∀ q, pbk P ov iv vx q → q < M)
/-- A place's answer: the row. -/
structure Plr (w : World) (B P : Nat) (v : Value) (xs : List Nat) : Prop where
  h : ∃ ov iv, Pls w B P ov iv v 1 [v] xs
theorem Plr.own {w : World} {B P : Nat} {v : Value} {xs : List Nat} (h : Plr w B P v xs) : w.ownsRow B 5 1 v xs.length (bv xs) := by
  obtain ⟨ov, iv, h⟩ := h.h
  exact h.x
theorem pbk_lt {w : World} {B P no : Nat} {ov iv vx : Value} {os : List Value} {xs : List Nat} (h : Pls w B P ov iv vx no os xs) : ∀ q, pbk P ov iv vx q → q < w.heap.size := fun q hq => by
  rcases hq with e | e | e | e
  · rw [e]; exact blk_lt h.p
  · exact (h.o.lt q e).2
  · exact (h.i.lt q e).2
  · exact (h.x.lt q e).2
theorem Plr.pla {w : World} {B P : Nat} {v : Value} {xs : List Nat} (h : Plr w B P v xs) : Pla w B w.heap.size P := by
  obtain ⟨ov, iv, h⟩ := h.h
  exact ⟨h.pb, blk_lt h.p, .inr ⟨ov, iv, v, xs, h, pbk_lt h⟩⟩
theorem Pls.below {w w' : World} {B P no : Nat} {ov iv vx : Value} {os : List Value} {xs : List Nat} (h : Pls w B P ov iv vx no os xs) (hb : Below w.heap.size w w') : Pls w' B P ov iv vx no os xs :=
  ⟨(hb.block P (blk_lt h.p)).trans h.p, own_below h.o hb (rfl : 0 = 0), own_below h.i hb (rfl : 0 = 0), own_below h.x hb (rfl : 0 = 0), h.oi, h.pb⟩
theorem Plr.below {w w' : World} {B P : Nat} {v : Value} {xs : List Nat} (h : Plr w B P v xs) (hb : Below w.heap.size w w') : Plr w' B P v xs := by
  obtain ⟨ov, iv, h⟩ := h.h
  exact ⟨ov, iv, h.below hb⟩
theorem Pla.below {w w' : World} {B M P : Nat} (h : Pla w B M P) (hb : Below w.heap.size w w') : Pla w' B M P := by
  obtain ⟨h0, h1, h | ⟨ov, iv, vx, xs, h, h2⟩⟩ := h
  · exact ⟨h0, h1, .inl ((hb.block P (blk_lt h)).trans h)⟩
  · exact ⟨h0, h1, .inr ⟨ov, iv, vx, xs, h.below hb, h2⟩⟩
theorem Pla.mono {w : World} {B M M' P : Nat} (h : Pla w B M P) (hM : M ≤ M') : Pla w B M' P := by
  obtain ⟨h0, h1, h | ⟨ov, iv, vx, xs, h, h2⟩⟩ := h
  · exact ⟨h0, by omega, .inl h⟩
  · exact ⟨h0, by omega, .inr ⟨ov, iv, vx, xs, h, fun q hq => by have := h2 q hq; omega⟩⟩
theorem Pla.lt {w : World} {B M P : Nat} (h : Pla w B M P) : P < w.heap.size := by
  obtain ⟨h0, _, h | ⟨ov, iv, vx, xs, h, _⟩⟩ := h
  · exact blk_lt h
  · exact blk_lt h.p
/-- Blocks that are not the place's change. -/
theorem Pla.kp {w w' : World} {B M P : Nat} {S : Nat → Prop} (h : Pla w B M P) (hk : Kp S w w') (hs : ∀ q, B ≤ q → q < M → ¬ S q) : Pla w' B M P := by
  obtain ⟨h0, h1, h | ⟨ov, iv, vx, xs, h, h2⟩⟩ := h
  · exact ⟨h0, h1, .inl ((hk.block P (blk_lt h) (hs P h0 h1)).trans h)⟩
  · exact ⟨h0, h1, .inr ⟨ov, iv, vx, xs, ⟨(hk.block P (blk_lt h.p) (hs P h0 h1)).trans h.p, hk.owns h.o (fun k e => hs k (h.o.lt k e).1 (h2 k (.inr (.inl e)))), hk.owns h.i (fun k e => hs k (h.i.lt k e).1 (h2 k (.inr (.inr (.inl e))))), hk.owns h.x (fun k e => hs k (h.x.lt k e).1 (h2 k (.inr (.inr (.inr e))))), h.oi, h.pb⟩, h2⟩⟩
/-- The row is written over in its place. -/
theorem Plr.over {w w' : World} {B P : Nat} {v : Value} {xs ys : List Nat} (h : Plr w B P v xs) (hk : Kp (fun q => v.ownBlock = some q) w w') (ho : w'.ownsRow B 5 1 v ys.length (bv ys)) : Plr w' B P v ys := by
  obtain ⟨ov, iv, h⟩ := h.h
  exact ⟨ov, iv, ⟨(hk.block P (blk_lt h.p) (fun e => own_not h.x h.p (by decide) e)).trans h.p, hk.owns h.o (fun k hk' e => own_apart h.o h.x (by decide) hk' e), hk.owns h.i (fun k hk' e => own_apart h.i h.x (by decide) hk' e), ho, h.oi, h.pb⟩⟩

theorem pbk_lo {w : World} {B P no : Nat} {ov iv vx : Value} {os : List Value} {xs : List Nat} (h : Pls w B P ov iv vx no os xs) : ∀ q, pbk P ov iv vx q → B ≤ q := fun q hq => by
  rcases hq with e | e | e | e
  · rw [e]; exact h.pb
  · exact (h.o.lt q e).1
  · exact (h.i.lt q e).1
  · exact (h.x.lt q e).1
theorem cell_alloc1 (w : World) (v : Value) (t : TypeId) : (w.alloc (.cells #[v] t)).cell? ⟨w.heap.size, 0, none⟩ = some v := blk_cell (by show (w.heap.push _)[w.heap.size]? = _; rw [Array.getElem?_push_size]) rfl
/-- Place.Rows of one row, whatever the place holds. -/
theorem rows_pla (w : World) (B M P c : Nat) (v : Value) (ys : List Nat) (h : Pla w B M P) (hc : w.cell? ⟨c, 0, none⟩ = some v) (hB : B ≤ w.heap.size) (hl : ys.length ≤ 140737488351232) (hcp : c ≠ P) (hv : ∀ w', Below B w w' → BSl w' v ys) :
    Calls Tryd.prog 40 #[.pointer (some ⟨P, 0, none⟩), .slice (some ⟨c, 0, none⟩) 1 1] w fun e w' => ∃ ov' vx', e = .returned ov' ∧ w'.ownsRow B 27 1 ov' 1 [vx'] ∧ Plr w' B P vx' ys ∧ Below B w w' ∧ Kp (fun q => B ≤ q ∧ q < M) w w' ∧ ∀ q, vx'.ownBlock = some q → q < M ∨ w.heap.size ≤ q := by
  obtain ⟨h0, h1, h | ⟨ov, iv, vx, xs, h, h2⟩⟩ := h
  · refine (rows_fresh w B P c v ys h h0 hc (hv w (Below.refl _ _)) hB hl hcp (fun w' hk => hv w' (hk.below hB (fun k e => by omega)))).mono ?_
    rintro e w' ⟨ov', iv', vx', he, hp, hk, hq⟩
    exact ⟨ov', vx', he, hp.o, ⟨ov', iv', hp⟩, hk.below hB (fun k e => by omega), hk.mono (fun q _ e => by omega), fun q e => by have := hq q (.inr (.inr (.inr e))); omega⟩
  · refine (rows_used w B P c v ov iv vx 1 [vx] xs ys h hc (hv w (Below.refl _ _)) hB hl hcp (fun w' hk => hv w' (hk.below hB (fun k e => by have := h.pb; omega)))).mono ?_
    rintro e w' ⟨ov', iv', vx', he, hp, hk, hq⟩
    exact ⟨ov', vx', he, hp.o, ⟨ov', iv', hp⟩, hk.below hB (pbk_lo h), hk.mono (fun q _ e => ⟨pbk_lo h q e, h2 q e⟩), fun q e => (hq q (.inr (.inr (.inr e)))).imp (h2 q) id⟩

set_option maxRecDepth 1000000 in
set_option maxHeartbeats 1000000 in
/-- Place.Bytes. -/
theorem pbytes_any (w : World) (B M P : Nat) (v : Value) (ys : List Nat) (h : Pla w B M P) (hB : B ≤ w.heap.size) (hl : ys.length ≤ 140737488351232) (hv : ∀ w', Below B w w' → BSl w' v ys) :
    Calls Tryd.prog 16 #[.pointer (some ⟨P, 0, none⟩), v] w fun e w' => ∃ vx', e = .returned vx' ∧ Plr w' B P vx' ys ∧ Below B w w' ∧ Kp (fun q => B ≤ q ∧ q < M) w w' ∧ ∀ q, vx'.ownBlock = some q → q < M ∨ w.heap.size ≤ q := by
  have HP := hide h
  have HB := hide hB
  have HL := hide hl
  have HV := hide hv
  clear h hB hl hv
  obtain ⟨⟨av, cv, rfl, _, _⟩, _, _⟩ := HV.out w (Below.refl _ _)
  go_enter Tryd.func16, Tryd.ntmps16
  go_wp2_with fail
  generalize hw1 : w.alloc _ = w1
  have HBa : Hid (Below w.heap.size w w1) := by rw [← hw1]; exact (Below.refl _ _).alloc (Nat.le_refl _) _
  have HC : Hid (w1.cell? ⟨w.heap.size, 0, none⟩ = some (.slice av ys.length cv)) := by rw [← hw1]; exact cell_alloc1 _ _ _
  have HPx := hide (HP.out.below HBa.out)
  have HBx : Hid (B ≤ w1.heap.size) := Nat.le_trans HB.out HBa.out.size
  refine (rows_pla w1 B M P w.heap.size _ ys HPx.out HC.out HBx.out HL.out (fun e => by have := HP.out.lt; omega) (fun w' hb => HV.out w' ((HBa.out.mono HB.out).trans hb))).mono ?_
  rintro e w2 ⟨ov, vx, rfl, ho, hp, hb, hkm, hvq⟩
  have HPR := hide hp
  have HB2 : Hid (Below B w w2) := (HBa.out.mono HB.out).trans hb
  obtain ⟨go, co, rfl, c0, _⟩ := own_one_form ho
  have HKM : Hid (Kp (fun q => B ≤ q ∧ q < M) w w2) := (Kp.of_below HBa.out).trans hkm (fun _ _ h => h)
  have HVQ : Hid (∀ q, vx.ownBlock = some q → q < M ∨ w.heap.size ≤ q) := fun q e => by have := hvq q e; have := HBa.out.size; omega
  clear ho hp hb hkm hvq
  go_wp2_with fail
  go_ret
  exact ⟨vx, rfl, HPR.out, HB2.out, HKM.out, HVQ.out⟩

theorem into_setR (xs ys : List Nat) (k : Nat) (hx : k < xs.length) (hy : k < ys.length) : (bv (ys.take k ++ xs.drop k)).set k (.int .u8 ((ys.getD k 0 : Nat) : Int)) = bv (ys.take (k + 1) ++ xs.drop (k + 1)) := by
  have e1 : ys.take k ++ xs.drop k = ys.take k ++ (xs[k] :: xs.drop (k + 1)) := by rw [List.drop_eq_getElem_cons hx]
  have e2 : ys.take (k + 1) ++ xs.drop (k + 1) = ys.take k ++ (ys[k] :: xs.drop (k + 1)) := by rw [List.take_succ_eq_append_getElem hy]; simp only [List.append_assoc, List.cons_append, List.nil_append]
  have hl2 : (bv (ys.take k)).length = k := by rw [bv_len, List.length_take]; omega
  have hb : ∀ (z : Nat) (l : List Nat), bv (z :: l) = Value.int .u8 ((z : Nat) : Int) :: bv l := fun _ _ => rfl
  rw [e1, e2, bv_app, bv_app, List.set_append_right (h := by omega), hl2, Nat.sub_self, hb, hb, List.set_cons_zero]
  simp [List.getD, hy]

set_option maxRecDepth 1000000 in
set_option maxHeartbeats 400000 in
theorem intoR_any {w : World} {B : Nat} {v : Value} {xs ys : List Nat} (h : w.ownsRow B 5 1 v xs.length (bv xs)) (hxl : xs.length ≤ 140737488351232) (vb : Value) (hb : BSl w vb ys) (hlen : ys.length = xs.length) (hne : ∀ k, v.ownBlock = some k → vb.ownBlock ≠ some k) :
    Calls Tryd.prog 18 #[v, vb] w fun e w' => e = .returned (.tuple #[]) ∧ w'.ownsRow B 5 1 v ys.length (bv ys) ∧ Kp (fun k => v.ownBlock = some k) w w' := by
  have HH := hide h
  have HB := hide hb
  have HLE := hide hlen
  have HNE := hide hne
  have hmx : xs.length ≤ 9223372036854775807 := by omega
  obtain ⟨a, cap, rfl, _, _, ha⟩ := own_form h
  have HA := hide ha
  obtain ⟨⟨ab, capb, rfl, hq1, hc⟩, hq2, hq3⟩ := hb
  have HC := hide hc
  clear h hlen hne hq1 hq2 hq3 hc ha hxl
  go_enter Tryd.func18, Tryd.ntmps18
  go_wp2
  go_loopw [4] (fun i wr => ∃ k : Nat, k ≤ xs.length ∧ i = .int .i64 k ∧ wr.ownsRow B 5 1 (.slice a xs.length cap) xs.length (bv (ys.take k ++ xs.drop k)) ∧ Kp (fun q => (Value.slice a xs.length cap).ownBlock = some q) w wr) (fun i _ => xs.length - (intOf i).toNat)
  case atStart => exact ⟨0, Nat.zero_le _, rfl, by simpa using HH.out, Kp.refl _ _⟩
  case round =>
    obtain ⟨k, hk, rfl, hown, hkp⟩ := hrel
    have HO := hide hown
    have HK := hide hkp
    clear hown hkp
    by_cases hlt : k < xs.length
    · have hlt' : (k : Int) < (xs.length : Int) := by omega
      have hlty : k < ys.length := by have := HLE.out; omega
      have hlty' : (k : Int) < (ys.length : Int) := by omega
      obtain ⟨g, rfl, _⟩ := HA.out k _ (bv_get hlt)
      rcases HC.out with h | ⟨b1, o1, rfl, hcc⟩
      · rw [h] at hlty; simp at hlty
      have hbg : ¬ (Value.slice (some ⟨g, 0, none⟩) xs.length cap).ownBlock = some b1 := fun e => HNE.out b1 e rfl
      have cc := HK.out.cell (hcc k hlty) hbg
      have hget : (bv (ys.take k ++ xs.drop k))[k]? = some (.int .u8 ((xs.getD k 0 : Nat) : Int)) := by
        have hl : k < (ys.take k ++ xs.drop k).length := by simp; omega
        rw [bv_get hl]
        congr 3
        have hl2 : (ys.take k).length = k := by rw [List.length_take]; omega
        simp only [List.getD]
        rw [List.getElem?_append_right (by omega), hl2, Nat.sub_self]
        simp
      obtain ⟨cg, fg⟩ := own_cell HO.out hget
      have hset := into_setR xs ys k hlt hlty
      have HSE := hide hset
      clear hset hget hcc
      generalize xs.getD k 0 = old at *
      generalize ys.getD k 0 = new at *
      have hbg' : ¬ g = b1 := fun e => hbg (by rw [e]; rfl)
      clear hbg
      go_wp2
      go_roundw
      case rel => exact ⟨k + 1, by omega, by go_num, by rw [← HSE.out]; exact own_set _ HO.out, HK.out.setCell _ _ (fun _ => rfl)⟩
      case measure => simp [intOf]; omega
    · have hlt' : ¬ (k : Int) < (xs.length : Int) := by omega
      go_wp2
      go_end0
      refine ⟨rfl, ?_, HK.out⟩
      have h := HO.out
      rw [List.take_of_length_le (by have := HLE.out; omega), List.drop_of_length_le (by omega), List.append_nil] at h
      rw [HLE.out]
      exact h

set_option maxRecDepth 1000000 in
set_option maxHeartbeats 400000 in
theorem overR_any {w : World} {B : Nat} {v : Value} {xs : List Nat} (h : w.ownsRow B 5 1 v xs.length (bv xs)) (hxl : xs.length ≤ 140737488351232) :
    Calls Tryd.prog 21 #[v] w fun e w' => e = .returned (.tuple #[]) ∧ w'.ownsRow B 5 1 v xs.length (bv (List.replicate xs.length 238)) ∧ Kp (fun k => v.ownBlock = some k) w w' := by
  have HH := hide h
  have hmx : xs.length ≤ 9223372036854775807 := by omega
  obtain ⟨a, cap, rfl, _, _, ha⟩ := own_form h
  have HA := hide ha
  clear h ha hxl
  have HLE : Hid ((List.replicate xs.length 238).length = xs.length) := by show _ = _; simp
  have HGD : Hid (∀ k, k < xs.length → (List.replicate xs.length 238).getD k 0 = 238) := fun k hk => by simp [List.getD, hk]
  generalize List.replicate xs.length 238 = ys at *
  go_enter Tryd.func21, Tryd.ntmps21
  go_wp2
  go_loopw [2] (fun i wr => ∃ k : Nat, k ≤ xs.length ∧ i = .int .i64 k ∧ wr.ownsRow B 5 1 (.slice a xs.length cap) xs.length (bv (ys.take k ++ xs.drop k)) ∧ Kp (fun q => (Value.slice a xs.length cap).ownBlock = some q) w wr) (fun i _ => xs.length - (intOf i).toNat)
  case atStart => exact ⟨0, Nat.zero_le _, rfl, by simpa using HH.out, Kp.refl _ _⟩
  case round =>
    obtain ⟨k, hk, rfl, hown, hkp⟩ := hrel
    have HO := hide hown
    have HK := hide hkp
    clear hown hkp
    by_cases hlt : k < xs.length
    · have hlt' : (k : Int) < (xs.length : Int) := by omega
      have hlty : k < ys.length := by have := HLE.out; omega
      obtain ⟨g, rfl, _⟩ := HA.out k _ (bv_get hlt)
      have hget : (bv (ys.take k ++ xs.drop k))[k]? = some (.int .u8 ((xs.getD k 0 : Nat) : Int)) := by
        have hl : k < (ys.take k ++ xs.drop k).length := by simp; omega
        rw [bv_get hl]
        congr 3
        have hl2 : (ys.take k).length = k := by rw [List.length_take]; omega
        simp only [List.getD]
        rw [List.getElem?_append_right (by omega), hl2, Nat.sub_self]
        simp
      obtain ⟨cg, fg⟩ := own_cell HO.out hget
      have hset := into_setR xs ys k hlt hlty
      rw [HGD.out k hlt] at hset
      have HSE := hide hset
      clear hset hget
      generalize xs.getD k 0 = old at *
      go_wp2
      go_roundw
      case rel => exact ⟨k + 1, by omega, by go_num, by rw [← HSE.out]; exact own_set _ HO.out, HK.out.setCell _ _ (fun _ => rfl)⟩
      case measure => simp [intOf]; omega
    · have hlt' : ¬ (k : Int) < (xs.length : Int) := by omega
      go_wp2
      go_end0
      refine ⟨rfl, ?_, HK.out⟩
      have h := HO.out
      rw [List.take_of_length_le (by have := HLE.out; omega), List.drop_of_length_le (by omega), List.append_nil] at h
      exact h
end Go.Proofs.YtedgdnoafajhoaaDoor
