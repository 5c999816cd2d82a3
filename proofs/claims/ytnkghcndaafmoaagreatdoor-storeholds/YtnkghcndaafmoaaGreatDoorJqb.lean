import Derived.Test.YtnkghcndaafmoaaGreatDoorJqa
namespace Go.Proofs.YtnkghcndaafmoaaGreatDoor
section
open Go.RowKit Go
set_option maxRecDepth 1000000 in
set_option maxHeartbeats 4000000 in
theorem siftDownF_any {α : Type} [Inhabited α] {gl gs : FuncId} {lb sb : Array Value} {lt : α → α → Bool} {M : Nat} {St : World → Array α → Prop} (hM : Srf gl gs lb sb lt M St) {w : World} {d : Array α} (h : St w d) (lo hi first : Nat) (hb : first + hi ≤ d.size) (hlo : lo ≤ hi) (hsz : d.size < 4611686018427387904) : Calls Tryz.prog 220 #[.agg (lsw gl gs lb sb), .int .i64 (lo : Nat), .int .i64 (hi : Nat), .int .i64 (first : Nat)] w fun e w' => e = .returned (.tuple #[]) ∧ Hid (St w' (Sort.siftDown lt hi first lo d)) := by
  obtain ⟨St2, hB, hM2, h2, hout⟩ := hM.enter h
  suffices key : Calls Tryz.prog 220 #[.agg (lsw gl gs lb sb), .int .i64 (lo : Nat), .int .i64 (hi : Nat), .int .i64 (first : Nat)] w fun e w' => e = .returned (.tuple #[]) ∧ Hid (St2 w' (Sort.siftDown lt hi first lo d)) from key.mono fun _ _ h => ⟨h.1, hout h.2⟩
  clear hout hM h
  obtain ⟨LS, hLS⟩ : ∃ LS, LS = Sort.siftDown lt hi first lo d := ⟨_, rfl⟩
  rw [← hLS]
  have HLS := hide hLS
  have HM := hide hB
  have HMF := hide hM2
  have el := hB.el
  have HS := h2
  have c0HS := HM.out.c0 HS
  have c1HS := HM.out.c1 HS
  obtain ⟨n, hn⟩ : ∃ n, n = d.size := ⟨_, rfl⟩
  rw [← hn] at hb hsz
  have HN := hide hn
  clear hB hM2 h2 hLS hn
  go_enter Tryz.func220, Tryz.ntmps220
  go_upto_region 1 with fail
  generalize w.alloc (.cells (lsw gl gs lb sb) 200) = w1 at *
  generalize w.heap.size = g at *
  go_wp2_with fail
  go_loopg [8] (hi - lo) (fun gk s8 wx => ∃ root : Nat, s8 = .int .i64 (root : Nat) ∧ (∃ d' : Array α, St2 wx d' ∧ d'.size = n ∧ LS = Sort.siftDown lt hi first root d' ∧ hi - root ≤ gk ∧ root ≤ hi))
  case atStart => exact ⟨lo, rfl, d, HS.out, HN.out.symm, HLS.out, Nat.le_refl _, hlo⟩
  case round =>
    obtain ⟨root, rfl, e, hs1, hd1, hl1, hg1, hrh⟩ := hrel
    have HS1 := hide hs1
    have c0HS1 := HM.out.c0 HS1
    have c1HS1 := HM.out.c1 HS1
    have HL1 := hide hl1
    clear hs1 hl1
    by_cases hce : hi ≤ 2 * root + 1
    · as_aux_lemma =>
      have ge1 : (hi : Int) ≤ 2 * (root : Int) + 1 := by omega
      have HE : Hid (St2 wr LS) := by show St2 _ _; rw [HL1.out, sift_end hce]; exact HS1.out
      clear HS1 HL1
      go_wp2_with fail
      first
        | (go_end0; exact ⟨rfl, HE⟩)
        | exact bodyPost_ret (results_none rfl _ _ _) rfl ⟨rfl, HE⟩
    have ge1 : ¬ ((hi : Int) ≤ 2 * (root : Int) + 1) := by omega
    by_cases h2 : 2 * root + 2 < hi
    · have gc2 : 2 * (root : Int) + 1 + 1 < (hi : Int) := by omega
      go_wp2_with fail
      refine (HM.out.lz HS1 (first + (2 * root + 1)) (first + (2 * root + 2)) _ _ (by omega) (by omega) (by omega) (by omega)).mono ?_
      rintro _ w2 ⟨rfl, hs2⟩
      have c0w2 := HM.out.c0 hs2
      have c1w2 := HM.out.c1 hs2
      generalize hlv : lt e[first + (2 * root + 1)]! e[first + (2 * root + 2)]! = lv at *
      have HLV := hide hlv
      clear hlv HS1
      cases lv with
      | true =>
        as_aux_lemma =>
        have HEQ := hide (HL1.out.trans (sift_up h2 HLV.out))
        clear HL1 HLV
        go_wp2_with fail
        refine (HM.out.lz hs2 (first + root) (first + (2 * root + 2)) _ _ (by omega) (by omega) (by omega) (by omega)).mono ?_
        rintro _ wU ⟨rfl, hsY⟩
        have c0wU := HM.out.c0 hsY
        have c1wU := HM.out.c1 hsY
        generalize hlv2 : lt e[first + root]! e[first + (2 * root + 2)]! = lv2 at *
        have HLV2 := hide hlv2
        clear hlv2 hs2
        cases lv2 with
        | false =>
          have HE : Hid (St2 wU LS) := by show St2 _ _; rw [HEQ.out]; exact hsY.out
          clear HEQ HLV2 hsY
          go_wp2_with fail
          first
            | (go_end0; exact ⟨rfl, HE⟩)
            | exact bodyPost_ret (results_none rfl _ _ _) rfl ⟨rfl, HE⟩
        | true =>
          have HLN : Hid (LS = Sort.siftDown lt hi first (2 * root + 2) (Sort.swp e (first + root) (first + (2 * root + 2)))) := by show _ = _; rw [HEQ.out]; rfl
          clear HEQ HLV2
          go_wp2_with fail
          refine upon_sz (HM.out.sz hsY (first + root) (first + (2 * root + 2)) _ _ (by omega) (by omega) (by omega) (by omega)) ?_
          rintro wV hsZ
          have c0wV := HM.out.c0 hsZ
          have c1wV := HM.out.c1 hsZ
          clear hsY
          go_wp2_with fail
          go_roundg (hi - (2 * root + 2))
          case measure => omega
          case rel => exact ⟨2 * root + 2, by first | rfl | go_num | (congr 1; omega), _, hsZ.out, (swp_size _ _ _).trans hd1, HLN.out, Nat.le_refl _, by omega⟩
      | false =>
        as_aux_lemma =>
        have HEQ := hide (HL1.out.trans (sift_lo hce (fun h => by rw [HLV.out] at h; cases h.2)))
        clear HL1 HLV
        go_wp2_with fail
        refine (HM.out.lz hs2 (first + root) (first + (2 * root + 1)) _ _ (by omega) (by omega) (by omega) (by omega)).mono ?_
        rintro _ wU ⟨rfl, hsY⟩
        have c0wU := HM.out.c0 hsY
        have c1wU := HM.out.c1 hsY
        generalize hlv2 : lt e[first + root]! e[first + (2 * root + 1)]! = lv2 at *
        have HLV2 := hide hlv2
        clear hlv2 hs2
        cases lv2 with
        | false =>
          have HE : Hid (St2 wU LS) := by show St2 _ _; rw [HEQ.out]; exact hsY.out
          clear HEQ HLV2 hsY
          go_wp2_with fail
          first
            | (go_end0; exact ⟨rfl, HE⟩)
            | exact bodyPost_ret (results_none rfl _ _ _) rfl ⟨rfl, HE⟩
        | true =>
          have HLN : Hid (LS = Sort.siftDown lt hi first (2 * root + 1) (Sort.swp e (first + root) (first + (2 * root + 1)))) := by show _ = _; rw [HEQ.out]; rfl
          clear HEQ HLV2
          go_wp2_with fail
          refine upon_sz (HM.out.sz hsY (first + root) (first + (2 * root + 1)) _ _ (by omega) (by omega) (by omega) (by omega)) ?_
          rintro wV hsZ
          have c0wV := HM.out.c0 hsZ
          have c1wV := HM.out.c1 hsZ
          clear hsY
          go_wp2_with fail
          go_roundg (hi - (2 * root + 1))
          case measure => omega
          case rel => exact ⟨2 * root + 1, by first | rfl | go_num | (congr 1; omega), _, hsZ.out, (swp_size _ _ _).trans hd1, HLN.out, Nat.le_refl _, by omega⟩
    · as_aux_lemma =>
      have gc2 : ¬ (2 * (root : Int) + 1 + 1 < (hi : Int)) := by omega
      have gc3 : decide (2 * (root : Int) + 1 + 1 < (hi : Int)) = false := decide_eq_false gc2
      have HEQ := hide (HL1.out.trans (sift_lo hce (fun h => h2 h.1)))
      clear HL1
      go_wp2_with fail
      refine (HM.out.lz HS1 (first + root) (first + (2 * root + 1)) _ _ (by omega) (by omega) (by omega) (by omega)).mono ?_
      rintro _ wU ⟨rfl, hsY⟩
      have c0wU := HM.out.c0 hsY
      have c1wU := HM.out.c1 hsY
      generalize hlv2 : lt e[first + root]! e[first + (2 * root + 1)]! = lv2 at *
      have HLV2 := hide hlv2
      clear hlv2 HS1
      cases lv2 with
      | false =>
        have HE : Hid (St2 wU LS) := by show St2 _ _; rw [HEQ.out]; exact hsY.out
        clear HEQ HLV2 hsY
        go_wp2_with fail
        first
          | (go_end0; exact ⟨rfl, HE⟩)
          | exact bodyPost_ret (results_none rfl _ _ _) rfl ⟨rfl, HE⟩
      | true =>
        have HLN : Hid (LS = Sort.siftDown lt hi first (2 * root + 1) (Sort.swp e (first + root) (first + (2 * root + 1)))) := by show _ = _; rw [HEQ.out]; rfl
        clear HEQ HLV2
        go_wp2_with fail
        refine upon_sz (HM.out.sz hsY (first + root) (first + (2 * root + 1)) _ _ (by omega) (by omega) (by omega) (by omega)) ?_
        rintro wV hsZ
        have c0wV := HM.out.c0 hsZ
        have c1wV := HM.out.c1 hsZ
        clear hsY
        go_wp2_with fail
        go_roundg (hi - (2 * root + 1))
        case measure => omega
        case rel => exact ⟨2 * root + 1, by first | rfl | go_num | (congr 1; omega), _, hsZ.out, (swp_size _ _ _).trans hd1, HLN.out, Nat.le_refl _, by omega⟩
end
end Go.Proofs.YtnkghcndaafmoaaGreatDoor
