import Derived.Test.YtedgdnoafajhoaaDoorDs
namespace Go.Proofs.YtedgdnoafajhoaaDoor
open Go.RowKit Go

theorem own_lt {w : World} {v : Value} {xs : List Nat} (h : BSl w v xs) (h0 : xs ≠ []) {k : Nat} (hk : v.ownBlock = some k) : k < w.heap.size := by
  obtain ⟨⟨a, cap, rfl, hn, hc⟩, hmax, hb⟩ := h
  rcases hc with hc | ⟨b, off, rfl, hc⟩
  · exact absurd hc h0
  · simp [Value.ownBlock] at hk
    subst hk
    have h1 := hc 0 (List.length_pos_iff.2 h0)
    by_cases hlt : b < w.heap.size
    · exact hlt
    · exfalso
      have e : w.heap[b]? = none := Array.getElem?_eq_none (by omega)
      simp [World.cell?, e] at h1

set_option maxRecDepth 1000000 in
set_option maxHeartbeats 1000000 in
theorem sum_any (w : World) (v : Value) (xs : List Nat) (hcb : Cb w) (hsl : BSl w v xs) (hlen : xs.length ≤ 140737488351232) :
    Calls Tryd.prog 13 #[v] w fun e w' => e = .returned (.agg (bv (sha xs)).toArray) ∧ Below w.heap.size w w' := by
  have HCB := hide hcb
  have HSL := hide hsl
  have HLE := hide hlen
  clear hcb hsl hlen
  go_enter Tryd.func13, Tryd.ntmps13
  go_wp2_with fail
  rw [← z32_lit]
  have HR1 : Hid ((w.alloc (.cells (bv (List.replicate 32 0)).toArray 28)).heap[w.heap.size]? = some (.cells (bv (List.replicate 32 0)).toArray 28 (0, 0))) := heap_alloc_new w _
  have HL1 : Hid (Below w.heap.size w (w.alloc (.cells (bv (List.replicate 32 0)).toArray 28))) := (Below.refl _ _).alloc (Nat.le_refl _) _
  generalize w.alloc (.cells (bv (List.replicate 32 0)).toArray 28) = w1 at *
  refine (new_any w1).mono ?_
  rintro e w2 ⟨g, rfl, hg2, hs2, hb2⟩
  have HS2 := hide hs2
  have HG2 := hide hg2
  have HR2 := hide ((hb2.block _ (blk_lt HR1.out)).trans HR1.out)
  have HRL := hide (blk_lt HR1.out)
  have HL2 : Hid (Below w.heap.size w w2) := HL1.out.trans (hb2.mono HL1.out.size)
  have HC2 := hide (HCB.out.below HL2.out)
  have HV2 := hide (HSL.out.move (keep_below HL2.out))
  clear hg2 hs2 hb2 HR1 HL1
  go_wp2_with fail
  refine (write_any w2 g v [] xs HC2.out (by have := HRL.out; have := HG2.out; omega) HS2.out (fun x hx => by cases hx) HV2.out (fun h0 h => by have := own_lt HSL.out h0 h; have := HRL.out; have := HG2.out; omega) (by have := HLE.out; simp; omega)).mono ?_
  rintro e w3 ⟨rfl, hs3, hk3⟩
  rw [List.nil_append] at hs3
  have HS3 := hide hs3
  have HR3 := hide ((hk3.block _ (blk_lt HR2.out) (by have := HRL.out; have := HG2.out; omega)).trans HR2.out)
  have HL3 : Hid (Below w.heap.size w w3) := by
    have h2 := HL2.out.size
    exact HL2.out.trans (hk3.below (by omega) (fun q e => by have := HRL.out; have := HG2.out; omega))
  have HC3 := hide (HCB.out.below HL3.out)
  clear hs3 hk3 HS2 HR2 HL2 HC2 HV2
  go_wp2_with fail
  refine (hsum_any w3 g xs HC3.out HS3.out HSL.out.byte HLE.out).mono ?_
  rintro e w4 ⟨rfl, hb4⟩
  have HR4 := hide ((hb4.block _ (blk_lt HR3.out)).trans HR3.out)
  have HL4 : Hid (Below w.heap.size w w4) := HL3.out.trans (hb4.mono HL3.out.size)
  have HOL := hide (sha_len xs)
  have HI32 := hide (info32d xs)
  have HON := hide (one32 xs)
  clear hb4 HR3 HL3 HC3 HS3
  have HSZ : Hid ((bv (List.replicate 32 0)).toArray.size = (bv (sha xs)).toArray.size) := by show _ = _; simp [bv_len, HOL.out]
  generalize hD : sha xs = D at *
  have HD := hide hD
  clear hD
  go_wp2_with (refine wpList_storeRow rfl rfl w.heap.size _ (bv D).toArray 28 rfl rfl HR4.out HI32.out HSZ.out HON.out ?_)
  refine bodyPost_ret (v := .agg (bv D).toArray) ((results_one (p := 2) (ty := 28) rfl _ _ _).trans (run_loadVar_row (P := Tryd.prog) _ w.heap.size 28 28 (bv D).toArray (0, 0) _ (row_same HR4.out) Tryd.underlying28 rfl HI32.out)) rfl ⟨by rw [HD.out], ?_⟩
  exact HL4.out.trans ((row_kp w4 w.heap.size _).below HL4.out.size (fun q e => by omega))
end Go.Proofs.YtedgdnoafajhoaaDoor
