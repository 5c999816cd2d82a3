import Derived.Test.YtcmfgambfgebfaaGreatDoorJf
import Derived.Test.YtcmfgambfgebfaaGreatDoorJd
namespace Go.Proofs.YtcmfgambfgebfaaGreatDoor
section
open Go.RowKit Go
/-! ### Good, the reference's -/
theorem drop_sl (s : ByteArray) (i : Nat) (h : i < s.size) : (sl s).drop i = s[i].toNat :: (sl s).drop (i + 1) := by
  have hl : i < (sl s).length := by rw [sl_len]; exact h
  rw [List.drop_eq_getElem_cons hl]
  congr 1
  have := sl_at s i h
  rw [List.getD_eq_getElem?_getD, List.getElem?_eq_getElem hl] at this
  exact this
theorem drop_len (s : ByteArray) (i : Nat) : ((sl s).drop i).length = s.size - i := by rw [List.length_drop, sl_len]
theorem drop_get (s : ByteArray) (i k : Nat) (h : i + k < s.size) : ((sl s).drop i).getD k 0 = s[i + k].toNat := by
  rw [← sl_at s (i + k) h, List.getD_eq_getElem?_getD, List.getD_eq_getElem?_getD, List.getElem?_drop]
theorem take_get (r : List Nat) (k : Nat) (h : k < r.length) : r.take (k + 1) = r.take k ++ [r.getD k 0] := by
  rw [List.take_succ_eq_append_getElem h, List.getD_eq_getElem?_getD, List.getElem?_eq_getElem h]
  rfl
/-- What Good's inner loop has in hand. -/
structure Gin (s : ByteArray) (i c0 k X : Nat) : Prop where
  x : X = cv c0 (((sl s).drop (i + 1)).take k)
  b : X + 1 ≤ 32 * 64 ^ k
  a : ∀ j, j < k → i + 1 + j < s.size ∧ 128 ≤ ((sl s).drop (i + 1)).getD j 0 ∧ ((sl s).drop (i + 1)).getD j 0 ≤ 191
theorem Gin.start (s : ByteArray) (i c0 : Nat) (h : c0 < 32) : Gin s i c0 0 c0 := ⟨rfl, by rw [Nat.pow_zero]; omega, fun j hj => by omega⟩
theorem Gin.next {s : ByteArray} {i c0 k X p : Nat} (h : Gin s i c0 k X) (hp : p = i + (k + 1)) (hlt : p < s.size) (h1 : 128 ≤ s[p].toNat) (h2 : s[p].toNat ≤ 191) : Gin s i c0 (k + 1) (64 * X + s[p].toNat - 128) := by
  have hq : i + 1 + k < s.size := by omega
  have e : ((sl s).drop (i + 1)).getD k 0 = s[p].toNat := by
    rw [drop_get s (i + 1) k hq]
    congr 2
    omega
  have hl : k < ((sl s).drop (i + 1)).length := by rw [drop_len]; omega
  refine ⟨?_, ?_, fun j hj => ?_⟩
  · rw [take_get _ _ hl, cv_app, e, ← h.x]
  · have := h.b
    rw [Nat.pow_succ]
    omega
  · by_cases hjk : j = k
    · subst hjk
      rw [e]
      exact ⟨hq, h1, h2⟩
    · exact h.a j (by omega)
/-- The end of the inner loop. -/
theorem Gin.fin {s : ByteArray} {i c0 n least X : Nat} (h : Gin s i c0 n X) (hi : i < s.size) (hg : gld s[i].toNat n least c0) : uone ((sl s).drop i) = if X < least ∨ 1114111 < X ∨ (55296 ≤ X ∧ X ≤ 57343) then 0 else n + 1 := by
  have hl : n ≤ ((sl s).drop (i + 1)).length := by
    rw [drop_len]
    rcases n with _ | n
    · omega
    · have := (h.a n (by omega)).1
      omega
  rw [drop_sl s i hi, g_fin hg hl (fun k hk => (h.a k hk).2), ← h.x]
theorem good_bad {s : ByteArray} {i : Nat} {G : Bool} (hi : i < s.size) (h : ugood ((sl s).drop i) = G) (h0 : uone ((sl s).drop i) = 0) : G = false := by
  rw [← h]
  exact ugood_bad (by rw [drop_sl s i hi]; simp) h0
theorem good_step {s : ByteArray} {i n : Nat} {G : Bool} (hi : i < s.size) (h : ugood ((sl s).drop i) = G) (h0 : uone ((sl s).drop i) = n + 1) : ugood ((sl s).drop (i + 1 + n)) = G := by
  have e := ugood_step (b := (sl s).drop i) (by rw [drop_sl s i hi]; simp) (by rw [h0]; omega)
  rw [h0, List.drop_drop] at e
  rw [← h, e]
  congr 2
  omega
theorem gld_c0 {c n least c0 : Nat} (h : gld c n least c0) : c0 < 32 := by unfold gld at h; omega
theorem gld_n {c n least c0 : Nat} (h : gld c n least c0) : n ≤ 3 := by unfold gld at h; omega
theorem gld_n1 {c n least c0 : Nat} (h : gld c n least c0) : 1 ≤ n := by unfold gld at h; omega
theorem gld_least {c n least c0 : Nat} (h : gld c n least c0) : least ≤ 65536 := by unfold gld at h; omega
set_option maxRecDepth 1000000 in
set_option maxHeartbeats 4000000 in
theorem good11_any (w : World) (s : ByteArray) (hs : s.size ≤ 140737488351232) : Calls Tryz.prog 85 #[.string s] w fun e w' => e = .returned (.bool (ugood (sl s))) ∧ w' = w := by
  generalize hG : ugood (sl s) = G
  have HG := hide hG
  clear hG
  go_enter Tryz.func85, Tryz.ntmps85
  go_wp2_with fail
  go_loopw [3] (fun ii wx => ∃ i : Nat, i ≤ s.size ∧ ii = .int .i64 (i : Nat) ∧ Hid (ugood ((sl s).drop i) = G) ∧ wx = w) (fun ii _ => s.size - (intOf ii).toNat)
  case atStart => exact ⟨0, by omega, rfl, by show _ = _; rw [List.drop_zero]; exact HG.out, rfl⟩
  case round =>
    obtain ⟨i, hi, rfl, HD, hww⟩ := hrel
    have hww := hww.symm
    subst hww
    clear HG
    by_cases hlt : i < s.size
    case neg => as_aux_lemma =>
      have m1 : ¬ (i : Int) < (s.size : Int) := by omega
      have HE : Hid (G = true) := by
        show _ = _
        rw [← HD.out, List.drop_eq_nil_of_le (by rw [sl_len]; omega)]
        exact ugood_nil
      go_wp2_with fail
      go_ret
      exact ⟨by rw [HE.out] <;> rfl, rfl⟩
    have m1 : (i : Int) < (s.size : Int) := by omega
    have hc6 : s[i].toNat < 256 := (s[i]).toNat_lt
    by_cases h128 : s[i].toNat < 128
    · as_aux_lemma =>
      have k1 : (s[i].toNat : Int) < 128 := by omega
      have HN : Hid (ugood ((sl s).drop (i + 1 + 0)) = G) := good_step hlt HD.out (by rw [drop_sl s i hlt]; exact uone_ascii _ _ h128)
      go_wp2_with fail
      go_roundw
      case rel => exact ⟨i + 1, by omega, by go_num, HN, trivial⟩
      case measure => simp [intOf]; omega
    have k1 : ¬ (s[i].toNat : Int) < 128 := by omega
    by_cases hbad : s[i].toNat < 194 ∨ 245 ≤ s[i].toNat
    · as_aux_lemma =>
      have HE : Hid (G = false) := good_bad hlt HD.out (by rw [drop_sl s i hlt]; exact g_none (by omega) hbad)
      rcases hbad with hbad | hbad
      · have k2 : ¬ (194 : Int) ≤ (s[i].toNat : Int) := by omega
        have k3 : ¬ (224 : Int) ≤ (s[i].toNat : Int) := by omega
        have k4 : ¬ (240 : Int) ≤ (s[i].toNat : Int) := by omega
        go_wp2_with fail
        go_ret
        exact ⟨by rw [HE.out] <;> rfl, rfl⟩
      · have k2 : (194 : Int) ≤ (s[i].toNat : Int) := by omega
        have k3 : ¬ (s[i].toNat : Int) < 224 := by omega
        have k4 : (224 : Int) ≤ (s[i].toNat : Int) := by omega
        have k5 : ¬ (s[i].toNat : Int) < 240 := by omega
        have k6 : (240 : Int) ≤ (s[i].toNat : Int) := by omega
        have k7 : ¬ (s[i].toNat : Int) < 245 := by omega
        go_wp2_with fail
        go_ret
        exact ⟨by rw [HE.out] <;> rfl, rfl⟩
    go_upto_region 5 with fail
    go_step
    go_step
    go_step
    go_step
    go_step
    go_step
    go_step
    go_step
    go_cut [3, 4, 5, 6] from 16 to 48 (fun vi vc vn vl wx => ∃ n least c0 : Nat, vi = .int .i64 (i : Nat) ∧ vc = .int .i64 (c0 : Nat) ∧ vn = .int .i64 (n : Nat) ∧ vl = .int .i64 (least : Nat) ∧ wx = w ∧ Hid (gld s[i].toNat n least c0))
    case first =>
      by_cases h1 : s[i].toNat < 224
      · as_aux_lemma =>
        have j1 : (194 : Int) ≤ (s[i].toNat : Int) := by omega
        have j2 : (s[i].toNat : Int) < 224 := by omega
        have w0 : (s[i].toNat : Int) - 192 = ((s[i].toNat - 192 : Nat) : Int) := by omega
        have HGL : Hid (gld s[i].toNat 1 128 (s[i].toNat - 192)) := by unfold Hid gld; omega
        generalize s[i].toNat - 192 = c0 at *
        go_wp2_with fail
        go_meet
        case rel => exact ⟨1, 128, c0, rfl, rfl, rfl, rfl, rfl, HGL⟩
      have j1 : (194 : Int) ≤ (s[i].toNat : Int) := by omega
      have j2 : ¬ (s[i].toNat : Int) < 224 := by omega
      have j3 : (224 : Int) ≤ (s[i].toNat : Int) := by omega
      by_cases h2 : s[i].toNat < 240
      · as_aux_lemma =>
        have j4 : (s[i].toNat : Int) < 240 := by omega
        have w0 : (s[i].toNat : Int) - 224 = ((s[i].toNat - 224 : Nat) : Int) := by omega
        have HGL : Hid (gld s[i].toNat 2 2048 (s[i].toNat - 224)) := by unfold Hid gld; omega
        generalize s[i].toNat - 224 = c0 at *
        go_wp2_with fail
        go_meet
        case rel => exact ⟨2, 2048, c0, rfl, rfl, rfl, rfl, rfl, HGL⟩
      as_aux_lemma =>
        have j4 : ¬ (s[i].toNat : Int) < 240 := by omega
        have j5 : (240 : Int) ≤ (s[i].toNat : Int) := by omega
        have j6 : (s[i].toNat : Int) < 245 := by omega
        have w0 : (s[i].toNat : Int) - 240 = ((s[i].toNat - 240 : Nat) : Int) := by omega
        have HGL : Hid (gld s[i].toNat 3 65536 (s[i].toNat - 240)) := by unfold Hid gld; omega
        generalize s[i].toNat - 240 = c0 at *
        go_wp2_with fail
        go_meet
        case rel => exact ⟨3, 65536, c0, rfl, rfl, rfl, rfl, rfl, HGL⟩
    obtain ⟨n, least, c0, rfl, rfl, rfl, rfl, hww, HGL⟩ := hcut
    have hww := hww.symm
    subst hww
    have HS := hide (Gin.start s i c0 (gld_c0 HGL.out))
    have hn3 : n ≤ 3 := gld_n HGL.out
    have HN1 := hide (gld_n1 HGL.out)
    have hls : least ≤ 65536 := gld_least HGL.out
    clear hbad h128 k1 hc6
    go_wp2_with fail
    go_loopw [4, 7] (fun vc vk wx => ∃ k X : Nat, k ≤ n ∧ vc = .int .i64 (X : Nat) ∧ vk = .int .i64 ((k + 1 : Nat) : Int) ∧ wx = w ∧ Hid (Gin s i c0 k X)) (fun _ vk _ => n + 1 - (intOf vk).toNat)
    case atStart => exact ⟨0, c0, by omega, rfl, rfl, rfl, HS⟩
    case round =>
      obtain ⟨k, X, hk, rfl, rfl, hww, HI⟩ := hrel
      have hww := hww.symm
      subst hww
      clear HS
      have hX : X ≤ 1000000000 := by
        have h1 := HI.out.b
        have h2 : 64 ^ k ≤ 64 ^ 3 := Nat.pow_le_pow_right (by decide) (by omega)
        have h3 : (64 : Nat) ^ 3 ≤ 262144 := by decide
        omega
      by_cases hkn : k < n
      · have m2 : ((k + 1 : Nat) : Int) ≤ (n : Int) := by omega
        have HBD : Hid (((sl s).drop (i + 1)).length ≤ k ∨ ((sl s).drop (i + 1)).getD k 0 < 128 ∨ 191 < ((sl s).drop (i + 1)).getD k 0 → G = false) := fun hb => good_bad hlt HD.out (by rw [drop_sl s i hlt]; exact g_bad HGL.out hkn hb)
        by_cases a1 : i + (k + 1) < s.size
        case neg => as_aux_lemma =>
          have q1 : (s.size : Int) ≤ (i : Int) + ((k : Int) + 1) := by omega
          have HE : Hid (G = false) := HBD.out (.inl (by rw [drop_len]; omega))
          go_wp2_with fail
          go_ret
          exact ⟨by rw [HE.out] <;> rfl, rfl⟩
        have q1 : ¬ (s.size : Int) ≤ (i : Int) + ((k : Int) + 1) := by omega
        have q0 : (i : Int) + ((k : Int) + 1) < (s.size : Int) := by omega
        have HGE : Hid (((sl s).drop (i + 1)).getD k 0 = s[i + (k + 1)].toNat) := by
          show _ = _
          rw [drop_get s (i + 1) k (by omega)]
          congr 2
          omega
        have hp6 : s[i + (k + 1)].toNat < 256 := (s[i + (k + 1)]).toNat_lt
        by_cases a2 : s[i + (k + 1)].toNat < 128
        · as_aux_lemma =>
          have q2 : (s[i + (k + 1)].toNat : Int) < 128 := by omega
          have HE : Hid (G = false) := HBD.out (.inr (.inl (by rw [HGE.out]; exact a2)))
          go_wp2_with fail
          go_ret
          exact ⟨by rw [HE.out] <;> rfl, rfl⟩
        have q2 : ¬ (s[i + (k + 1)].toNat : Int) < 128 := by omega
        by_cases a3 : 191 < s[i + (k + 1)].toNat
        · as_aux_lemma =>
          have q3 : (191 : Int) < (s[i + (k + 1)].toNat : Int) := by omega
          have HE : Hid (G = false) := HBD.out (.inr (.inr (by rw [HGE.out]; exact a3)))
          go_wp2_with fail
          go_ret
          exact ⟨by rw [HE.out] <;> rfl, rfl⟩
        as_aux_lemma =>
          have q3 : ¬ (191 : Int) < (s[i + (k + 1)].toNat : Int) := by omega
          have HI2 := hide (HI.out.next rfl a1 (by omega) (by omega))
          obtain ⟨Y, hY⟩ : ∃ Y, 64 * X + s[i + (k + 1)].toNat - 128 = Y := ⟨_, rfl⟩
          rw [hY] at HI2
          have m4 : 64 * (X : Int) + (s[i + (k + 1)].toNat : Int) - 128 = (Y : Nat) := by omega
          clear hY a2 a3
          go_wp2_with fail
          go_roundw
          case rel => exact ⟨k + 1, Y, by omega, by first | rfl | (rw [m4]) | (congr 1; omega), by go_num, trivial, HI2⟩
          case measure => simp [intOf]; omega
      · have hk2 : k = n := by omega
        subst hk2
        have m2 : ¬ ((k + 1 : Nat) : Int) ≤ (k : Int) := by omega
        have HF := hide (HI.out.fin hlt HGL.out)
        have hle : i + 1 + k ≤ s.size := by
          have h1 := HN1.out
          have := (HI.out.a (k - 1) (by omega)).1
          omega
        by_cases b1 : X < least
        · as_aux_lemma =>
          have q1 : (X : Int) < (least : Int) := by omega
          have HE : Hid (G = false) := good_bad hlt HD.out (by rw [HF.out, if_pos (.inl b1)])
          go_wp2_with fail
          go_ret
          exact ⟨by rw [HE.out] <;> rfl, rfl⟩
        have q1 : ¬ (X : Int) < (least : Int) := by omega
        by_cases b2 : 1114111 < X
        · as_aux_lemma =>
          have q2 : (1114111 : Int) < (X : Int) := by omega
          have HE : Hid (G = false) := good_bad hlt HD.out (by rw [HF.out, if_pos (.inr (.inl b2))])
          go_wp2_with fail
          go_ret
          exact ⟨by rw [HE.out] <;> rfl, rfl⟩
        have q2 : ¬ (1114111 : Int) < (X : Int) := by omega
        by_cases b3 : 55296 ≤ X
        · have q3 : (55296 : Int) ≤ (X : Int) := by omega
          by_cases b4 : X ≤ 57343
          · as_aux_lemma =>
            have q4 : (X : Int) ≤ 57343 := by omega
            have HE : Hid (G = false) := good_bad hlt HD.out (by rw [HF.out, if_pos (.inr (.inr ⟨b3, b4⟩))])
            go_wp2_with fail
            go_ret
            exact ⟨by rw [HE.out] <;> rfl, rfl⟩
          as_aux_lemma =>
            have q4 : ¬ (X : Int) ≤ 57343 := by omega
            have HN := hide (good_step (n := k) hlt HD.out (by rw [HF.out, if_neg (by omega)]))
            go_wp2_with fail
            go_roundw
            case rel => exact ⟨i + 1 + k, hle, by go_num, HN, trivial⟩
            case measure => simp [intOf]; omega
        as_aux_lemma =>
          have q3 : ¬ (55296 : Int) ≤ (X : Int) := by omega
          have HN := hide (good_step (n := k) hlt HD.out (by rw [HF.out, if_neg (by omega)]))
          go_wp2_with fail
          go_roundw
          case rel => exact ⟨i + 1 + k, hle, by go_num, HN, trivial⟩
          case measure => simp [intOf]; omega
end
section
open Go.RowKit Go
/-! ### fields, the reference's -/
/-- A boxed type in hand. -/
structure Tbx (w : World) (tc : Array Value) (wx : World) : Prop where
  a : wx.heap[w.heap.size]? = some (.cells tc 45 (0, 0))
  b : Below w.heap.size w wx
theorem Tbx.next {w wx wy : World} {tc : Array Value} (h : Tbx w tc wx) (hb : Below wx.heap.size wx wy) : Tbx w tc wy := ⟨(hb.block _ (blk_lt h.a)).trans h.a, h.b.trans (hb.mono h.b.size)⟩
theorem Tbx.start (w : World) (tc : Array Value) : Tbx w tc (w.alloc (.cells tc 45)) := ⟨heap_alloc_new w _, below_alloc4 w _⟩
/-- A boxed type and a field. -/
structure Fdw (w : World) (tc fc : Array Value) (F : Nat) (wx : World) : Prop where
  t : Tbx w tc wx
  f : wx.heap[F]? = some (.cells fc 77 (0, 0))
theorem Fdw.next {w wx wy : World} {tc fc : Array Value} {F : Nat} (h : Fdw w tc fc F wx) (hb : Below wx.heap.size wx wy) : Fdw w tc fc F wy := ⟨h.t.next hb, (hb.block _ (blk_lt h.f)).trans h.f⟩
theorem ksP_nil (k : Int) : ksP k [] = [] := by unfold ksP; split <;> rfl
theorem fok_no1 {k : Int} {pre : List Fd} {f : Fd} (h : fon k f = false) : fok k pre f = false := by unfold fok; rw [h, Bool.false_and]
theorem fok_no2 {k : Int} {pre : List Fd} {f g : Fd} (hg : g ∈ pre) (h : fpr k f g = true) : fok k pre f = false := by
  unfold fok
  rw [Bool.and_eq_false_iff]
  refine .inr ?_
  rw [List.all_eq_false]
  exact ⟨g, hg, by rw [h]; decide⟩
theorem fok_yes {k : Int} {pre : List Fd} {f : Fd} (h : fon k f = true) (h2 : ∀ j g, j < pre.length → pre[j]? = some g → fpr k f g = false) : fok k pre f = true := by
  unfold fok
  rw [h, Bool.true_and, List.all_eq_true]
  intro g hg
  obtain ⟨j, hj, e⟩ := List.getElem_of_mem hg
  rw [h2 j g hj (by rw [List.getElem?_eq_getElem hj, e])]
  rfl
set_option maxRecDepth 1000000 in
set_option maxHeartbeats 2000000 in
theorem fields11_any (w : World) (t : Tp) (c : Array Value) (hc : Tpi w t c) : Calls Tryz.prog 53 #[.agg c] w fun e w' => e = .returned (.bool (fft t)) ∧ Below w.heap.size w w' := by
  obtain ⟨⟨vf, vc, vw, rfl, ⟨⟨af, cf, rfl, -, hff⟩, hfm⟩, ⟨⟨ac, cc, rfl, -, -⟩, -⟩, ⟨⟨aw, cw, rfl, -, -⟩, -, -⟩⟩, -⟩ := hc
  have HF := hide hff
  clear hff
  unfold tpc
  have HX := hide (Tbx.start w #[.string t.n, .int .i64 t.k, .int .i64 t.lo, .int .i64 t.hi, .string t.r.n, .bool t.r.z, .slice af t.fs.length cf, .slice ac t.cs.length cc, .slice aw t.ws.length cw])
  have HT1 : Hid ((#[.string t.n, .int .i64 t.k, .int .i64 t.lo, .int .i64 t.hi, .string t.r.n, .bool t.r.z, .slice af t.fs.length cf, .slice ac t.cs.length cc, .slice aw t.ws.length cw] : Array Value)[1]? = some (.int .i64 t.k)) := rfl
  have HT6 : Hid ((#[.string t.n, .int .i64 t.k, .int .i64 t.lo, .int .i64 t.hi, .string t.r.n, .bool t.r.z, .slice af t.fs.length cf, .slice ac t.cs.length cc, .slice aw t.ws.length cw] : Array Value)[6]? = some (.slice af t.fs.length cf)) := rfl
  have HIF := hide infoFd
  have HAF : Hid (∀ w, (isAgg 77).run Tryz.prog w = .ok true w) := aggFd
  have HFE : Hid (fft t = (decide (t.fs.length ≤ 64) && ffs t.k [] [] false t.fs)) := rfl
  go_enter Tryz.func53, Tryz.ntmps53
  go_upto_region 1 with fail
  generalize w.alloc (.cells #[.string t.n, .int .i64 t.k, .int .i64 t.lo, .int .i64 t.hi, .string t.r.n, .bool t.r.z, .slice af t.fs.length cf, .slice ac t.cs.length cc, .slice aw t.ws.length cw] 45) = w1 at *
  obtain ⟨tc, htc⟩ : ∃ tc : Array Value, tc = #[.string t.n, .int .i64 t.k, .int .i64 t.lo, .int .i64 t.hi, .string t.r.n, .bool t.r.z, .slice af t.fs.length cf, .slice ac t.cs.length cc, .slice aw t.ws.length cw] := ⟨_, rfl⟩
  rw [← htc] at HX HT1 HT6
  clear htc
  have q6 : w1.cell? ⟨w.heap.size, 6, none⟩ = some (.slice af t.fs.length cf) := blk_cell (j := 6) HX.out.a HT6.out
  by_cases h64 : t.fs.length ≤ 64
  case neg => as_aux_lemma =>
    have g0 : (64 : Int) < (t.fs.length : Int) := by omega
    have HE : Hid (fft t = false) := by show _ = _; rw [HFE.out, decide_eq_false h64, Bool.false_and]
    clear HFE
    go_wp2_with fail
    go_ret
    exact ⟨by rw [HE.out] <;> rfl, HX.out.b⟩
  have g0 : ¬ (64 : Int) < (t.fs.length : Int) := by omega
  have HFF : Hid (fft t = ffs t.k [] [] false t.fs) := by show _ = _; rw [HFE.out, decide_eq_true h64, Bool.true_and]
  clear HFE
  go_wp2_with fail
  clear q6 g0
  go_loopw [3] (fun vi wx => ∃ (i : Nat), i ≤ t.fs.length ∧ vi = .int .i64 (i : Nat) ∧ Hid (fft t = ffs t.k ((t.fs.take i).map (·.n)).reverse (ksP t.k (t.fs.take i)) (mbP (t.fs.take i)) (t.fs.drop i)) ∧ Hid (Mon t.k (t.fs.take i)) ∧ Hid (Tbx w tc wx)) (fun vi _ => t.fs.length - (intOf vi).toNat)
  case atStart => exact ⟨0, by omega, rfl, by show _ = _; rw [HFF.out, List.take_zero, ksP_nil]; rfl, (show Mon t.k (t.fs.take 0) from fun _ g hg => by rw [List.take_zero] at hg; cases hg), HX⟩
  case round =>
    obtain ⟨i, hi, rfl, HE, HM, HXi⟩ := hrel
    clear HX HFF
    have q6 : wr.cell? ⟨w.heap.size, 6, none⟩ = some (.slice af t.fs.length cf) := blk_cell (j := 6) HXi.out.a HT6.out
    by_cases hlt : i < t.fs.length
    case neg => as_aux_lemma =>
      have g1 : ¬ (i : Int) < (t.fs.length : Int) := by omega
      have HR : Hid (fft t = true) := by show _ = _; rw [HE.out, List.drop_eq_nil_of_le (by omega)]; rfl
      clear HE
      go_wp2_with fail
      go_ret
      exact ⟨by rw [HR.out] <;> rfl, HXi.out.b⟩
    have g1 : (i : Int) < (t.fs.length : Int) := by omega
    obtain ⟨f, hf⟩ : ∃ f, t.fs[i]? = some f := ⟨t.fs[i], List.getElem?_eq_getElem hlt⟩
    obtain ⟨b, off, rfl, hcc⟩ := HF.out.resolve_left (fun h => by rw [h] at hlt; simp at hlt)
    have HCC : Hid (∀ (j : Nat) (g : Fd) (wy : World), t.fs[j]? = some g → Below w.heap.size w wy → ∀ (m : Nat) (u : Value), (#[.string g.n, .string g.k, .string g.r.n, .bool g.r.z, .bool g.m] : Array Value)[m]? = some u → wy.cell? ⟨b, off + j * 5 + m, none⟩ = some u) := fun j g wy hg hb m u hu => by
      obtain ⟨c, ⟨rfl, _⟩, hcell⟩ := hcc j g hg
      exact keep_below hb _ _ (hcell m u hu)
    have HSZ : Hid (f.n.size ≤ 140737488351232 ∧ f.k.size ≤ 140737488351232) := by
      obtain ⟨c, ⟨_, h1, h2, _⟩, _⟩ := hcc i f hf
      exact ⟨h1, h2⟩
    have HCL := hide (HCC.out i f wr hf HXi.out.b)
    have HDR : Hid (t.fs.drop i = f :: t.fs.drop (i + 1)) := by
      show _ = _
      rw [List.drop_eq_getElem_cons hlt]
      rw [List.getElem?_eq_getElem hlt] at hf
      injection hf with hf
      rw [hf]
    have HTK : Hid (t.fs.take (i + 1) = t.fs.take i ++ [f]) := by
      show _ = _
      rw [List.take_succ_eq_append_getElem hlt]
      rw [List.getElem?_eq_getElem hlt] at hf
      injection hf with hf
      rw [hf]
    rw [HDR.out] at HE
    have HX2 : Hid (Fdw w tc #[.string f.n, .string f.k, .string f.r.n, .bool f.r.z, .bool f.m] wr.heap.size (wr.alloc (.cells #[.string f.n, .string f.k, .string f.r.n, .bool f.r.z, .bool f.m] 77))) := ⟨HXi.out.next (below_alloc4 wr _), heap_alloc_new wr _⟩
    have HNO : Hid (fok t.k (t.fs.take i) f = false → fft t = false) := fun h => HE.out.trans (ffs_no HM.out h)
    have HYE : Hid (fok t.k (t.fs.take i) f = true → fft t = ffs t.k ((t.fs.take (i + 1)).map (·.n)).reverse (ksP t.k (t.fs.take (i + 1))) (mbP (t.fs.take (i + 1))) (t.fs.drop (i + 1)) ∧ Mon t.k (t.fs.take (i + 1))) := fun h => by
      rw [HTK.out]
      exact ⟨HE.out.trans (ffs_yes h), mon_app HM.out h⟩
    clear hcc hf HF HE HM HXi HDR HTK
    go_upto_region 7 with (refine wpList_aggAt rfl rfl HIF.out HAF.out b (off + i * 5) #[.string f.n, .string f.k, .string f.r.n, .bool f.r.z, .bool f.m] rfl rfl HCL.out ?_)
    generalize hF : wr.heap.size = F at *
    have HFZ := hide hF
    clear hF
    generalize wr.alloc (.cells #[.string f.n, .string f.k, .string f.r.n, .bool f.r.z, .bool f.m] 77) = w2 at *
    have q1 : w2.cell? ⟨w.heap.size, 1, none⟩ = some (.int .i64 t.k) := blk_cell (j := 1) HX2.out.t.a HT1.out
    have c0 : w2.cell? ⟨F, 0, none⟩ = some (.string f.n) := blk_cell (j := 0) HX2.out.f rfl
    have c1 : w2.cell? ⟨F, 1, none⟩ = some (.string f.k) := blk_cell (j := 1) HX2.out.f rfl
    have HNM := hide (named11_any w2 f.n)
    have HGD := hide (good11_any w2 f.k HSZ.out.2)
    rw [show ugood (sl f.k) = !badb f.k by rw [bad_good, Bool.not_not]] at HGD
    have HFO : Hid (fon t.k f = (nbl f.n && (!(decide (t.k = 5) && badb f.k) && !(decide (t.k = 6) && !decide (f.k = ⟨#[]⟩))))) := rfl
    clear q6 HCL HSZ
    go_cut [47] from 23 to 48 (fun v wx => v = .bool (!fon t.k f) ∧ wx = w2)
    case first =>
      cases hn : nbl f.n with
      | false => as_aux_lemma =>
        have HR : Hid (fon t.k f = false) := by show _ = _; rw [HFO.out, hn, Bool.false_and]
        rw [hn] at HNM
        clear HFO hn HGD
        go_wp2_with (go_at_call 47; refine HNM.out.mono ?_; rintro e wq ⟨rfl, hwq⟩; have hwq := hwq.symm; subst hwq)
        go_meet
        case rel => exact ⟨by rw [HR.out] <;> rfl, rfl⟩
      | true =>
        rw [hn] at HNM
        by_cases h5 : t.k = 5
        · have g5 : (t.k == 5) = true := beq_iff_eq.2 h5
          have g6 : (t.k == 6) = false := beq_eq_false_iff_ne.2 (by omega)
          cases hb : badb f.k with
          | true => as_aux_lemma =>
            have HR : Hid (fon t.k f = false) := by show _ = _; rw [HFO.out, hn, hb, decide_eq_true h5]; rfl
            rw [hb] at HGD
            clear HFO hn hb h5
            go_wp2_with (first
              | (go_at_call 47; refine HNM.out.mono ?_; rintro e wq ⟨rfl, hwq⟩; have hwq := hwq.symm; subst hwq)
              | (go_at_call 85; refine HGD.out.mono ?_; rintro e wq ⟨rfl, hwq⟩; have hwq := hwq.symm; subst hwq))
            go_meet
            case rel => exact ⟨by rw [HR.out] <;> rfl, rfl⟩
          | false => as_aux_lemma =>
            have HR : Hid (fon t.k f = true) := by show _ = _; rw [HFO.out, hn, hb, decide_eq_false (show ¬ t.k = 6 by omega)]; simp
            rw [hb] at HGD
            clear HFO hn hb h5
            go_wp2_with (first
              | (go_at_call 47; refine HNM.out.mono ?_; rintro e wq ⟨rfl, hwq⟩; have hwq := hwq.symm; subst hwq)
              | (go_at_call 85; refine HGD.out.mono ?_; rintro e wq ⟨rfl, hwq⟩; have hwq := hwq.symm; subst hwq))
            go_meet
            case rel => exact ⟨by rw [HR.out] <;> rfl, rfl⟩
        have g5 : (t.k == 5) = false := beq_eq_false_iff_ne.2 h5
        by_cases h6 : t.k = 6
        · have g6 : (t.k == 6) = true := beq_iff_eq.2 h6
          by_cases hk : f.k = ⟨#[]⟩
          · as_aux_lemma =>
            have gk : (f.k.toList == []) = true := by rw [hk, emp_l11]; rfl
            have HR : Hid (fon t.k f = true) := by show _ = _; rw [HFO.out, hn, decide_eq_false h5, decide_eq_true hk]; simp
            clear HFO hn h5 h6 hk HGD
            go_wp2_with (go_at_call 47; refine HNM.out.mono ?_; rintro e wq ⟨rfl, hwq⟩; have hwq := hwq.symm; subst hwq)
            go_meet
            case rel => exact ⟨by rw [HR.out] <;> rfl, rfl⟩
          · as_aux_lemma =>
            have gk : (f.k.toList == []) = false := by have := str_no hk; rw [emp_l11] at this; exact this
            have HR : Hid (fon t.k f = false) := by show _ = _; rw [HFO.out, hn, decide_eq_true h6, decide_eq_false hk]; simp
            clear HFO hn h5 h6 hk HGD
            go_wp2_with (go_at_call 47; refine HNM.out.mono ?_; rintro e wq ⟨rfl, hwq⟩; have hwq := hwq.symm; subst hwq)
            go_meet
            case rel => exact ⟨by rw [HR.out] <;> rfl, rfl⟩
        · as_aux_lemma =>
          have g6 : (t.k == 6) = false := beq_eq_false_iff_ne.2 h6
          have HR : Hid (fon t.k f = true) := by show _ = _; rw [HFO.out, hn, decide_eq_false h5, decide_eq_false h6]; rfl
          clear HFO hn h5 h6 HGD
          go_wp2_with (go_at_call 47; refine HNM.out.mono ?_; rintro e wq ⟨rfl, hwq⟩; have hwq := hwq.symm; subst hwq)
          go_meet
          case rel => exact ⟨by rw [HR.out] <;> rfl, rfl⟩
    obtain ⟨rfl, hww⟩ := hcut
    have hww := hww.symm
    subst hww
    clear HFO HNM HGD q1 c0 c1
    cases hfo : fon t.k f with
    | false => as_aux_lemma =>
      have HR : Hid (fft t = false) := HNO.out (fok_no1 hfo)
      clear hfo
      go_wp2_with fail
      go_ret
      exact ⟨by rw [HR.out] <;> rfl, HX2.out.t.b⟩
    | true =>
      have HFO := hide hfo
      clear hfo
      go_wp2_with fail
      go_loopw [5] (fun vj wx => ∃ (j : Nat), j ≤ i ∧ vj = .int .i64 (j : Nat) ∧ Hid (∀ m g, m < j → t.fs[m]? = some g → fpr t.k f g = false) ∧ Hid (Fdw w tc #[.string f.n, .string f.k, .string f.r.n, .bool f.r.z, .bool f.m] F wx)) (fun vj _ => i - (intOf vj).toNat)
      case atStart => exact ⟨0, by omega, rfl, fun m _ hm => absurd hm (by omega), HX2⟩
      case round =>
        rename World => wq
        obtain ⟨j, hj, rfl, HP, HXj⟩ := hrel
        clear HX2
        by_cases hjl : j < i
        case neg => as_aux_lemma =>
          have g2 : ¬ (j : Int) < (i : Int) := by omega
          have HY := hide (HYE.out (fok_yes HFO.out (fun m g hm hg => HP.out m g (by rw [List.length_take] at hm; omega) (by
            rw [List.getElem?_take] at hg
            split at hg
            · exact hg
            · cases hg))))
          go_wp2_with fail
          go_roundw
          case rel => exact ⟨i + 1, by omega, by go_num, HY.out.1, HY.out.2, HXj.out.t⟩
          case measure => simp [intOf]; omega
        have g2 : (j : Int) < (i : Int) := by omega
        have g3 : (j : Int) < (t.fs.length : Int) := by omega
        obtain ⟨g, hg⟩ : ∃ g, t.fs[j]? = some g := ⟨t.fs[j], List.getElem?_eq_getElem (by omega)⟩
        have HCL := hide (HCC.out j g wq hg HXj.out.t.b)
        have q6 : wq.cell? ⟨w.heap.size, 6, none⟩ = some (.slice (some ⟨b, off, none⟩) t.fs.length cf) := blk_cell (j := 6) HXj.out.t.a HT6.out
        have HX3 := hide (HXj.out.next (below_alloc4 wq (.cells #[.string g.n, .string g.k, .string g.r.n, .bool g.r.z, .bool g.m] 77)))
        have HG3 : Hid ((wq.alloc (.cells #[.string g.n, .string g.k, .string g.r.n, .bool g.r.z, .bool g.m] 77)).heap[wq.heap.size]? = some (.cells #[.string g.n, .string g.k, .string g.r.n, .bool g.r.z, .bool g.m] 77 (0, 0))) := heap_alloc_new wq _
        have HBA : Hid (fpr t.k f g = true → fft t = false) := fun h => HNO.out (fok_no2 (g := g) (by
          rw [List.mem_iff_getElem?]
          exact ⟨j, by rw [List.getElem?_take_of_lt hjl]; exact hg⟩) h)
        have HNX : Hid (fpr t.k f g = false → ∀ m g, m < j + 1 → t.fs[m]? = some g → fpr t.k f g = false) := fun h m g' hm hg' => by
          by_cases e : m = j
          · subst e
            rw [hg] at hg'
            rw [← Option.some.inj hg']
            exact h
          · exact HP.out m g' (by omega) hg'
        clear hg HP HXj HNO HYE
        go_upto_region 13 with (refine wpList_aggAt rfl rfl HIF.out HAF.out b (off + j * 5) #[.string g.n, .string g.k, .string g.r.n, .bool g.r.z, .bool g.m] rfl rfl HCL.out ?_)
        generalize hGz : wq.heap.size = G at *
        have HGZ := hide hGz
        clear hGz
        generalize wq.alloc (.cells #[.string g.n, .string g.k, .string g.r.n, .bool g.r.z, .bool g.m] 77) = w3 at *
        have q1 : w3.cell? ⟨w.heap.size, 1, none⟩ = some (.int .i64 t.k) := blk_cell (j := 1) HX3.out.t.a HT1.out
        have c0 : w3.cell? ⟨F, 0, none⟩ = some (.string f.n) := blk_cell (j := 0) HX3.out.f rfl
        have c1 : w3.cell? ⟨F, 1, none⟩ = some (.string f.k) := blk_cell (j := 1) HX3.out.f rfl
        have c4 : w3.cell? ⟨F, 4, none⟩ = some (.bool f.m) := blk_cell (j := 4) HX3.out.f rfl
        have d0 : w3.cell? ⟨G, 0, none⟩ = some (.string g.n) := blk_cell (j := 0) HG3.out rfl
        have d1 : w3.cell? ⟨G, 1, none⟩ = some (.string g.k) := blk_cell (j := 1) HG3.out rfl
        have d4 : w3.cell? ⟨G, 4, none⟩ = some (.bool g.m) := blk_cell (j := 4) HG3.out rfl
        have HFP : Hid (fpr t.k f g = (decide (g.n = f.n) || (decide (t.k = 5) && decide (g.k = f.k) || decide (t.k = 6) && (g.m && !f.m)))) := rfl
        clear q6 HCL HG3 HFO
        go_cut [88] from 58 to 89 (fun v wx => v = .bool (fpr t.k f g) ∧ wx = w3)
        case first =>
          by_cases hn : g.n = f.n
          · as_aux_lemma =>
            have e1 : (g.n.toList == f.n.toList) = true := by rw [hn]; exact str_yes _
            have HR : Hid (fpr t.k f g = true) := by show _ = _; rw [HFP.out, decide_eq_true hn]; rfl
            clear HFP hn
            go_wp2_with fail
            go_meet
            case rel => exact ⟨by rw [HR.out] <;> rfl, rfl⟩
          have e1 := str_no hn
          by_cases h5 : t.k = 5
          · have g5 : (t.k == 5) = true := beq_iff_eq.2 h5
            have g6 : (t.k == 6) = false := beq_eq_false_iff_ne.2 (by omega)
            by_cases hk : g.k = f.k
            · as_aux_lemma =>
              have e2 : (g.k.toList == f.k.toList) = true := by rw [hk]; exact str_yes _
              have HR : Hid (fpr t.k f g = true) := by show _ = _; rw [HFP.out, decide_eq_true h5, decide_eq_true hk]; simp
              clear HFP hn h5 hk
              go_wp2_with fail
              go_meet
              case rel => exact ⟨by rw [HR.out] <;> rfl, rfl⟩
            · as_aux_lemma =>
              have e2 := str_no hk
              have HR : Hid (fpr t.k f g = false) := by show _ = _; rw [HFP.out, decide_eq_false hn, decide_eq_false hk, decide_eq_false (show ¬ t.k = 6 by omega)]; simp
              clear HFP hn h5 hk
              go_wp2_with fail
              go_meet
              case rel => exact ⟨by rw [HR.out] <;> rfl, rfl⟩
          have g5 : (t.k == 5) = false := beq_eq_false_iff_ne.2 h5
          by_cases h6 : t.k = 6
          · as_aux_lemma =>
            have g6 : (t.k == 6) = true := beq_iff_eq.2 h6
            have HR : Hid (fpr t.k f g = (g.m && !f.m)) := by show _ = _; rw [HFP.out, decide_eq_false hn, decide_eq_false h5, decide_eq_true h6]; simp
            clear HFP hn h5 h6
            generalize f.m = fm at *
            generalize g.m = gm at *
            cases gm <;> cases fm <;> (
              go_wp2_with fail
              go_meet
              case rel => exact ⟨by rw [HR.out] <;> rfl, rfl⟩)
          · as_aux_lemma =>
            have g6 : (t.k == 6) = false := beq_eq_false_iff_ne.2 h6
            have HR : Hid (fpr t.k f g = false) := by show _ = _; rw [HFP.out, decide_eq_false hn, decide_eq_false h5, decide_eq_false h6]; rfl
            clear HFP hn h5 h6
            go_wp2_with fail
            go_meet
            case rel => exact ⟨by rw [HR.out] <;> rfl, rfl⟩
        obtain ⟨rfl, hww⟩ := hcut
        have hww := hww.symm
        subst hww
        clear HFP q1 c0 c1 c4 d0 d1 d4
        cases hfp : fpr t.k f g with
        | true => as_aux_lemma =>
          have HR : Hid (fft t = false) := HBA.out hfp
          clear hfp
          go_wp2_with fail
          go_ret
          exact ⟨by rw [HR.out] <;> rfl, HX3.out.t.b⟩
        | false => as_aux_lemma =>
          have HR := hide (HNX.out hfp)
          clear hfp
          go_wp2_with fail
          go_roundw
          case rel => exact ⟨j + 1, by omega, by go_num, HR, HX3⟩
          case measure => simp [intOf]; omega
end
section
open Go.RowKit Go
/-! ### kinded, the reference's -/
theorem seen_take {l : List Tp} {cs : List Cz} {i : Nat} {x : Cz} (hx : cs[i]? = some x) : ((cs.take (i + 1)).map (fun x => ckd l x.n)).reverse = ckd l x.n :: ((cs.take i).map (fun x => ckd l x.n)).reverse := by
  obtain ⟨hl, he⟩ := List.getElem?_eq_some_iff.1 hx
  rw [List.take_succ_eq_append_getElem hl, List.map_append, List.reverse_append, he]
  rfl
set_option maxRecDepth 1000000 in
set_option maxHeartbeats 2000000 in
theorem kinded11_any (w : World) (v : Value) (l : List Tp) (hv : TSl w v l) (F : Fst l) (t : Tp) (c : Array Value) (hc : Tpi w t c) (hE : ∀ x ∈ t.cs, (flr l x.n).2.2 = true ∧ (fnd l x.n).2 = true) : Calls Tryz.prog 55 #[v, .agg c] w fun e w' => e = .returned (.bool (kap l [] t.cs)) ∧ Below w.heap.size w w' := by
  have hmax := hv.max
  obtain ⟨⟨vf, vc, vw, rfl, ⟨⟨af, cf, rfl, -, -⟩, -⟩, ⟨⟨ac, cc, rfl, -, hcf⟩, hcm⟩, ⟨⟨aw, cw, rfl, -, -⟩, -, -⟩⟩, -⟩ := hc
  have HC := hide hcf
  have HF := hide F
  have HEN := hide hE
  clear hcf F hE
  unfold tpc
  have HX := hide (Tbx.start w #[.string t.n, .int .i64 t.k, .int .i64 t.lo, .int .i64 t.hi, .string t.r.n, .bool t.r.z, .slice af t.fs.length cf, .slice ac t.cs.length cc, .slice aw t.ws.length cw])
  have HT7 : Hid ((#[.string t.n, .int .i64 t.k, .int .i64 t.lo, .int .i64 t.hi, .string t.r.n, .bool t.r.z, .slice af t.fs.length cf, .slice ac t.cs.length cc, .slice aw t.ws.length cw] : Array Value)[7]? = some (.slice ac t.cs.length cc)) := rfl
  have HV1 : Hid (TSl (w.alloc (.cells #[.string t.n, .int .i64 t.k, .int .i64 t.lo, .int .i64 t.hi, .string t.r.n, .bool t.r.z, .slice af t.fs.length cf, .slice ac t.cs.length cc, .slice aw t.ws.length cw] 45)) v l) := TSl.mv hv (keep_below HX.out.b)
  obtain ⟨⟨a, cap, rfl, hn, hcl⟩, _⟩ := hv
  clear hn hcl
  go_enter Tryz.func55, Tryz.ntmps55
  go_upto_region 1 with fail
  generalize w.alloc (.cells #[.string t.n, .int .i64 t.k, .int .i64 t.lo, .int .i64 t.hi, .string t.r.n, .bool t.r.z, .slice af t.fs.length cf, .slice ac t.cs.length cc, .slice aw t.ws.length cw] 45) = w1 at *
  have q7 : w1.cell? ⟨w.heap.size, 7, none⟩ = some (.slice ac t.cs.length cc) := blk_cell (j := 7) HX.out.a HT7.out
  have HTP : Hid (∀ (j : Nat) (u : Tp), l[j]? = some u → ∃ b off, a = some ⟨b, off, none⟩ ∧ w1.cell? ⟨b, off + j * 9 + 1, none⟩ = some (.int .i64 u.k)) := fun j u hu => by
    obtain ⟨⟨a', cap', e, _, hcl⟩, _⟩ := HV1.out
    injection e with e1 _ _
    subst e1
    rcases hcl with h | ⟨b, off, ea, h⟩
    · rw [h] at hu; cases hu
    · obtain ⟨c, ⟨⟨vf, vc, vw, rfl, _⟩, _⟩, hcell⟩ := h j u hu
      exact ⟨b, off, ea, hcell 1 (.int .i64 u.k) rfl⟩
  have HCN : Hid (∀ (j : Nat) (x : Cz), t.cs[j]? = some x → ∃ b off, ac = some ⟨b, off, none⟩ ∧ w1.cell? ⟨b, off + j * 2 + 1, none⟩ = some (.string x.n)) := fun j x hx => by
    rcases HC.out with h | ⟨b, off, ea, h⟩
    · rw [h] at hx; cases hx
    · obtain ⟨c, ⟨rfl, _⟩, hcell⟩ := h j x hx
      exact ⟨b, off, ea, keep_below HX.out.b _ _ (hcell 1 (.string x.n) rfl)⟩
  have HB := hide HX.out.b
  clear HX HC HT7
  go_wp2_with fail
  go_loopw [5] (fun vi wx => ∃ (i : Nat), i ≤ t.cs.length ∧ vi = .int .i64 (i : Nat) ∧ wx = w1 ∧ Hid (kap l [] t.cs = kap l ((t.cs.take i).map (fun x => ckd l x.n)).reverse (t.cs.drop i)) ∧ Hid (∀ x ∈ t.cs.take i, Cok l x.n)) (fun vi _ => t.cs.length - (intOf vi).toNat)
  case atStart => exact ⟨0, by omega, rfl, rfl, rfl, (fun x hx => by rw [List.take_zero] at hx; cases hx)⟩
  case round =>
    obtain ⟨i, hi, rfl, hww, HE, HOK⟩ := hrel
    have hww := hww.symm
    subst hww
    by_cases hlt : i < t.cs.length
    case neg => as_aux_lemma =>
      have g1 : ¬ (i : Int) < (t.cs.length : Int) := by omega
      have HR : Hid (kap l [] t.cs = true) := by show _ = _; rw [HE.out, List.drop_eq_nil_of_le (by omega)]; rfl
      clear HE
      go_wp2_with fail
      go_ret
      exact ⟨by rw [HR.out] <;> rfl, HB.out⟩
    have g1 : (i : Int) < (t.cs.length : Int) := by omega
    obtain ⟨x, hx⟩ : ∃ x, t.cs[i]? = some x := ⟨t.cs[i], List.getElem?_eq_getElem hlt⟩
    obtain ⟨b, off, rfl, qn⟩ := HCN.out i x hx
    have HDR : Hid (t.cs.drop i = x :: t.cs.drop (i + 1)) := by
      show _ = _
      rw [List.drop_eq_getElem_cons hlt]
      rw [List.getElem?_eq_getElem hlt] at hx
      injection hx with hx
      rw [hx]
    rw [HDR.out] at HE
    have HSE := hide (seen_take (l := l) hx)
    have HXE := hide (HEN.out x (List.mem_of_getElem? hx))
    have HFO := hide (follow11_any w1 _ l HV1.out x.n)
    rw [HXE.out.1] at HFO
    have HPL := hide (place11_any w1 _ l HV1.out (flr l x.n).1)
    have HTK : Hid (t.cs.take (i + 1) = t.cs.take i ++ [x]) := by
      show _ = _
      rw [List.take_succ_eq_append_getElem hlt]
      rw [List.getElem?_eq_getElem hlt] at hx
      injection hx with hx
      rw [hx]
    have HBD : Hid ((flr l x.n).2.1 = true ∨ ckd l x.n = 0 ∨ ckd l x.n ∈ ((t.cs.take i).map (fun x => ckd l x.n)).reverse → kap l [] t.cs = false) := fun h => HE.out.trans (kap_bad HF.out h)
    have HGO : Hid (Cok l x.n → ckd l x.n ∉ ((t.cs.take i).map (fun x => ckd l x.n)).reverse → kap l [] t.cs = kap l ((t.cs.take (i + 1)).map (fun x => ckd l x.n)).reverse (t.cs.drop (i + 1)) ∧ ∀ y ∈ t.cs.take (i + 1), Cok l y.n) := fun h1 h2 => by
      rw [HSE.out]
      refine ⟨HE.out.trans (kap_next HF.out h1 h2), fun y hy => ?_⟩
      rw [HTK.out] at hy
      rcases List.mem_append.1 hy with hy | hy
      · exact HOK.out y hy
      · rw [List.mem_singleton.1 hy]; exact h1
    clear hx HE HDR HSE HTK
    obtain ⟨Z, hZ⟩ : ∃ Z, (flr l x.n).2.1 = Z := ⟨_, rfl⟩
    obtain ⟨E, hEE⟩ : ∃ E, (flr l x.n).1 = E := ⟨_, rfl⟩
    rw [hZ, hEE] at HFO
    rw [hEE] at HPL
    have HZ := hide hZ
    have HEE := hide hEE
    clear hZ hEE
    obtain ⟨P, hP⟩ : ∃ P, pli l E = P := ⟨_, rfl⟩
    rw [hP] at HPL
    have HPP := hide hP
    clear hP
    go_upto_region 7 with (first
      | (go_at_call 23; refine HFO.out.mono ?_; rintro e wq ⟨rfl, hwq⟩; have hwq := hwq.symm; subst hwq)
      | (go_at_call 50; refine HPL.out.mono ?_; rintro e wq ⟨rfl, hwq⟩; have hwq := hwq.symm; subst hwq))
    go_cut [48] from 36 to 49 (fun v wx => ∃ ok : Bool, v = .bool (!ok) ∧ wx = w1 ∧ Hid ((ok = true → Cok l x.n) ∧ (ok = false → kap l [] t.cs = false)))
    case first =>
      cases Z with
      | true => as_aux_lemma =>
        have HR := hide (HBD.out (.inl HZ.out))
        go_wp2_with fail
        go_meet
        case rel => exact ⟨false, rfl, rfl, (fun h => by cases h), fun _ => HR.out⟩
      | false =>
        cases hp : plc l E with
        | none => as_aux_lemma =>
          have HPE : P = -1 := by rw [← HPP.out]; unfold pli; rw [hp]
          have HR : Hid (Cok l x.n) := ⟨HXE.out.1, flr_fen HF.out HXE.out.2 HXE.out.1, HZ.out, by rw [HEE.out, fnd_none_k hp]; decide⟩
          subst HPE
          clear hp HPP
          go_wp2_with fail
          go_meet
          case rel => exact ⟨true, rfl, rfl, fun _ => HR.out, (fun h => by cases h)⟩
        | some j =>
          have HPE : P = (j : Nat) := by rw [← HPP.out]; unfold pli; rw [hp]
          obtain ⟨u, hu, hun⟩ := plc_lt hp
          obtain ⟨b2, off2, rfl, qk⟩ := HTP.out j u hu
          have hjl : j < l.length := (List.getElem?_eq_some_iff.1 hu).1
          have g2 : (j : Int) < (l.length : Int) := by omega
          have g3 : (0 : Int) ≤ (j : Int) := by omega
          subst HPE
          by_cases h8 : u.k = 8
          · as_aux_lemma =>
            have g8 : (u.k == 8) = true := beq_iff_eq.2 h8
            have HR := hide (HBD.out (.inr (.inl (ckd_8 HF.out (by rw [HEE.out]; exact hp) hu h8))))
            clear hp HPP hu hun h8
            go_wp2_with fail
            go_meet
            case rel => exact ⟨false, rfl, rfl, (fun h => by cases h), fun _ => HR.out⟩
          · as_aux_lemma =>
            have g8 : (u.k == 8) = false := beq_eq_false_iff_ne.2 h8
            have HR : Hid (Cok l x.n) := ⟨HXE.out.1, flr_fen HF.out HXE.out.2 HXE.out.1, HZ.out, by rw [HEE.out, fnd_some hp hu]; exact h8⟩
            clear hp HPP hu hun h8
            go_wp2_with fail
            go_meet
            case rel => exact ⟨true, rfl, rfl, fun _ => HR.out, (fun h => by cases h)⟩
    obtain ⟨ok, rfl, hww, HK⟩ := hcut
    have hww := hww.symm
    subst hww
    clear HPL HFO HZ HEE HXE HPP
    cases ok with
    | false => as_aux_lemma =>
      have HR := hide (HK.out.2 rfl)
      clear HK
      go_wp2_with fail
      go_ret
      exact ⟨by rw [HR.out] <;> rfl, HB.out⟩
    | true =>
      have HCX := hide (HK.out.1 rfl)
      have HRX := hide (HCX.out.kind HF.out)
      clear HK
      go_wp2_with fail
      go_loopw [11] (fun vj wx => ∃ (j : Nat), j ≤ i ∧ vj = .int .i64 (j : Nat) ∧ wx = w1 ∧ Hid (∀ m y, m < j → t.cs[m]? = some y → ckd l y.n ≠ ckd l x.n)) (fun vj _ => i - (intOf vj).toNat)
      case atStart => exact ⟨0, by omega, rfl, rfl, fun m _ hm => absurd hm (by omega)⟩
      case round =>
        obtain ⟨j, hj, rfl, hww, HNE⟩ := hrel
        have hww := hww.symm
        subst hww
        by_cases hjl : j < i
        case neg => as_aux_lemma =>
          have g2 : ¬ (j : Int) < (i : Int) := by omega
          have HG := hide (HGO.out HCX.out (fun hm => by
            rw [List.mem_reverse] at hm
            obtain ⟨y, hy, e⟩ := List.mem_map.1 hm
            obtain ⟨m, hm2, e2⟩ := List.getElem_of_mem hy
            rw [List.length_take] at hm2
            refine HNE.out m y (by omega) ?_ e
            rw [← e2, List.getElem_take]
            exact List.getElem?_eq_getElem _))
          go_wp2_with fail
          go_roundw
          case rel => exact ⟨i + 1, by omega, by go_num, trivial, HG.out.1, HG.out.2⟩
          case measure => simp [intOf]; omega
        have g2 : (j : Int) < (i : Int) := by omega
        have g3 : (j : Int) < (t.cs.length : Int) := by omega
        obtain ⟨y, hy⟩ : ∃ y, t.cs[j]? = some y := ⟨t.cs[j], List.getElem?_eq_getElem (by omega)⟩
        obtain ⟨b3, off3, eb, qy⟩ := HCN.out j y hy
        injection eb with eb
        injection eb with eb1 eb2 _
        subst eb1
        subst eb2
        have HMY : Hid (y ∈ t.cs.take i) := by
          show _ ∈ _
          rw [List.mem_iff_getElem?]
          exact ⟨j, by rw [List.getElem?_take_of_lt hjl]; exact hy⟩
        have HCY := hide (HOK.out y HMY.out)
        have HTX : Hid (∀ kd : Nat, Calls Tryz.prog 88 #[.slice a l.length cap, .string x.n, .int .i64 (kd : Nat)] w1 fun e w' => e = .returned (.bool (decide (ckd l x.n = kd))) ∧ w' = w1) := fun kd => takes11_any w1 _ l HV1.out HF.out x.n HCX.out kd
        have HTY : Hid (∀ kd : Nat, Calls Tryz.prog 88 #[.slice a l.length cap, .string y.n, .int .i64 (kd : Nat)] w1 fun e w' => e = .returned (.bool (decide (ckd l y.n = kd))) ∧ w' = w1) := fun kd => takes11_any w1 _ l HV1.out HF.out y.n HCY.out kd
        have HNX : Hid (ckd l y.n ≠ ckd l x.n → ∀ m z, m < j + 1 → t.cs[m]? = some z → ckd l z.n ≠ ckd l x.n) := fun h m z hm hz => by
          by_cases e : m = j
          · subst e
            rw [hy] at hz
            rw [← Option.some.inj hz]
            exact h
          · exact HNE.out m z (by omega) hz
        have HBY : Hid (ckd l y.n = ckd l x.n → kap l [] t.cs = false) := fun h => HBD.out (.inr (.inr (by
          rw [List.mem_reverse]
          exact List.mem_map.2 ⟨y, HMY.out, h⟩)))
        clear hy HNE HMY
        generalize ckd l x.n = X at *
        generalize ckd l y.n = Y at *
        go_wp2_with fail
        go_loopw [12] (fun vk wx => ∃ (kd : Nat), kd ≤ 10 ∧ vk = .int .i64 (kd : Nat) ∧ wx = w1 ∧ Hid (Y = X → kd ≤ X)) (fun vk _ => 10 - (intOf vk).toNat)
        case atStart => exact ⟨1, by omega, rfl, rfl, fun _ => by have := HRX.out; omega⟩
        case round =>
          obtain ⟨kd, hkd, rfl, hww, HY⟩ := hrel
          have hww := hww.symm
          subst hww
          by_cases hk9 : kd ≤ 9
          case neg => as_aux_lemma =>
            have g4 : ¬ (kd : Int) ≤ 9 := by omega
            have HG := hide (HNX.out (fun h => by have h1 := HY.out h; have h2 := HRX.out; omega))
            go_wp2_with fail
            go_roundw
            case rel => exact ⟨j + 1, by omega, by go_num, trivial, HG⟩
            case measure => simp [intOf]; omega
          have g4 : (kd : Int) ≤ 9 := by omega
          have HTX1 := hide (HTX.out kd)
          have HTY1 := hide (HTY.out kd)
          by_cases hX : X = kd
          · rw [decide_eq_true hX] at HTX1
            by_cases hY : Y = kd
            · as_aux_lemma =>
              rw [decide_eq_true hY] at HTY1
              have HR := hide (HBY.out (hY.trans hX.symm))
              clear hX hY HTX HTY HY HRX HBY HNX
              go_wp2_with (first
                | (go_at_call 88; with_reducible refine HTX1.out.mono ?_; rintro e wq ⟨rfl, hwq⟩; have hwq := hwq.symm; subst hwq)
                | (go_at_call 88; with_reducible refine HTY1.out.mono ?_; rintro e wq ⟨rfl, hwq⟩; have hwq := hwq.symm; subst hwq))
              go_ret
              exact ⟨by rw [HR.out] <;> rfl, HB.out⟩
            · as_aux_lemma =>
              rw [decide_eq_false hY] at HTY1
              have HY2 : Hid (Y = X → kd + 1 ≤ X) := fun h => absurd (h.trans hX) hY
              clear hX hY HTX HTY HY HRX HBY HNX
              go_wp2_with (first
                | (go_at_call 88; with_reducible refine HTX1.out.mono ?_; rintro e wq ⟨rfl, hwq⟩; have hwq := hwq.symm; subst hwq)
                | (go_at_call 88; with_reducible refine HTY1.out.mono ?_; rintro e wq ⟨rfl, hwq⟩; have hwq := hwq.symm; subst hwq))
              go_roundw
              case rel => exact ⟨kd + 1, by omega, by go_num, trivial, HY2⟩
              case measure => simp [intOf]; omega
          · as_aux_lemma =>
            rw [decide_eq_false hX] at HTX1
            have HY2 : Hid (Y = X → kd + 1 ≤ X) := fun h => by have := HY.out h; omega
            clear hX HTX HTY HY HRX HBY HNX HTY1
            go_wp2_with (go_at_call 88; with_reducible refine HTX1.out.mono ?_; rintro e wq ⟨rfl, hwq⟩; have hwq := hwq.symm; subst hwq)
            go_roundw
            case rel => exact ⟨kd + 1, by omega, by go_num, trivial, HY2⟩
            case measure => simp [intOf]; omega
end
section
open Go.RowKit Go
set_option maxRecDepth 1000000 in
set_option maxHeartbeats 1000000 in
theorem kind_any (w : World) (hT : Otb w) (t : Tp) (c : Array Value) (hc : Tpi w t c) : Calls Tryz.prog 83 #[.agg c] w fun e w' => e = .returned (.int .i64 (knd t : Nat)) ∧ Below w.heap.size w w' := by
  have HT := hide hT
  obtain ⟨⟨vf, vc, vw, rfl, ⟨⟨af, cf, rfl, -, hff⟩, hfm⟩, ⟨⟨ac, cc, rfl, -, hcf⟩, hcm⟩, ⟨⟨aw, cw, rfl, -, -⟩, hwm, -⟩⟩, hbd⟩ := hc
  unfold tpc
  have hb0 := below_alloc4 w (.cells #[.string t.n, .int .i64 t.k, .int .i64 t.lo, .int .i64 t.hi, .string t.r.n, .bool t.r.z, .slice af t.fs.length cf, .slice ac t.cs.length cc, .slice aw t.ws.length cw] 45)
  have HB0 := hide hb0
  clear hff hfm hcf hcm hwm hT hb0
  go_enter Tryz.func83, Tryz.ntmps83
  by_cases h2 : t.k = 2
  · as_aux_lemma =>
    have g2 : (t.k == 2) = true := beq_iff_eq.2 h2
    have HK : Hid (knd t = 3) := by show _ = _; unfold knd; rw [if_pos h2]
    clear h2
    go_wp2_with fail
    go_ret
    exact ⟨by rw [HK.out]; rfl, HB0.out⟩
  have g2 : (t.k == 2) = false := beq_eq_false_iff_ne.2 h2
  by_cases h3 : t.k = 3
  · as_aux_lemma =>
    have g3 : (t.k == 3) = true := beq_iff_eq.2 h3
    have HK : Hid (knd t = 8) := by show _ = _; unfold knd; rw [if_neg h2, if_pos (.inl h3)]
    clear h2 h3
    go_wp2_with fail
    go_ret
    exact ⟨by rw [HK.out]; rfl, HB0.out⟩
  have g3 : (t.k == 3) = false := beq_eq_false_iff_ne.2 h3
  by_cases h6 : t.k = 6
  · as_aux_lemma =>
    have g6 : (t.k == 6) = true := beq_iff_eq.2 h6
    have HK : Hid (knd t = 8) := by show _ = _; unfold knd; rw [if_neg h2, if_pos (.inr h6)]
    clear h2 h3 h6
    go_wp2_with fail
    go_ret
    exact ⟨by rw [HK.out]; rfl, HB0.out⟩
  have g6 : (t.k == 6) = false := beq_eq_false_iff_ne.2 h6
  by_cases h4 : t.k = 4
  · as_aux_lemma =>
    have g4 : (t.k == 4) = true := beq_iff_eq.2 h4
    have HK : Hid (knd t = 9) := by show _ = _; unfold knd; rw [if_neg h2, if_neg (fun h => h.elim h3 h6), if_pos (.inl h4)]
    clear h2 h3 h6 h4
    go_wp2_with fail
    go_ret
    exact ⟨by rw [HK.out]; rfl, HB0.out⟩
  have g4 : (t.k == 4) = false := beq_eq_false_iff_ne.2 h4
  by_cases h5 : t.k = 5
  · as_aux_lemma =>
    have g5 : (t.k == 5) = true := beq_iff_eq.2 h5
    have HK : Hid (knd t = 9) := by show _ = _; unfold knd; rw [if_neg h2, if_neg (fun h => h.elim h3 h6), if_pos (.inr (.inl h5))]
    clear h2 h3 h6 h4 h5
    go_wp2_with fail
    go_ret
    exact ⟨by rw [HK.out]; rfl, HB0.out⟩
  have g5 : (t.k == 5) = false := beq_eq_false_iff_ne.2 h5
  by_cases h7 : t.k = 7
  · as_aux_lemma =>
    have g7 : (t.k == 7) = true := beq_iff_eq.2 h7
    have HK : Hid (knd t = 9) := by show _ = _; unfold knd; rw [if_neg h2, if_neg (fun h => h.elim h3 h6), if_pos (.inr (.inr h7))]
    clear h2 h3 h6 h4 h5 h7
    go_wp2_with fail
    go_ret
    exact ⟨by rw [HK.out]; rfl, HB0.out⟩
  have g7 : (t.k == 7) = false := beq_eq_false_iff_ne.2 h7
  by_cases h9 : t.k = 9
  · as_aux_lemma =>
    have g9 : (t.k == 9) = true := beq_iff_eq.2 h9
    have HK : Hid (knd t = 5) := by show _ = _; unfold knd; rw [if_neg h2, if_neg (fun h => h.elim h3 h6), if_neg (fun h => h.elim h4 (fun h => h.elim h5 h7)), if_pos h9]
    clear h2 h3 h6 h4 h5 h7 h9
    go_wp2_with fail
    go_ret
    exact ⟨by rw [HK.out]; rfl, HB0.out⟩
  have g9 : (t.k == 9) = false := beq_eq_false_iff_ne.2 h9
  have HK : Hid (knd t = (ownK t.n).getD 0) := by show _ = _; unfold knd; rw [if_neg h2, if_neg (fun h => h.elim h3 h6), if_neg (fun h => h.elim h4 (fun h => h.elim h5 h7)), if_neg h9]
  clear h2 h3 h6 h4 h5 h7 h9
  go_wp2_with fail
  refine (ownKind_any t.n _ (HT.out.next (keep_below HB0.out))).mono ?_
  rintro e w1 ⟨rfl, hb⟩
  have HB1 : Hid (Below w.heap.size w w1) := HB0.out.trans (hb.mono HB0.out.size)
  clear hb
  go_wp2_with fail
  go_ret
  exact ⟨by rw [HK.out]; rfl, HB1.out⟩
set_option maxRecDepth 1000000 in
set_option maxHeartbeats 1000000 in
theorem taken_any (w : World) (hT : Otb w) (vt : Value) (B : Nat) (l : List Tp) (hB : Sbok w vt B l) (s : ByteArray) (hs : s.size ≤ 140737488351232) (i : Nat) : Calls Tryz.prog 37 #[.agg #[vt, .map (some B)], .string s, .int .i64 (i : Nat)] w fun e w' => e = .returned (.bool ((ownK s).isSome || decide ((plc l s).getD 0 < i))) ∧ Below w.heap.size w w' := by
  have HT := hide hT
  have HB := hide hB
  have HS := hide hs
  obtain ⟨⟨⟨a, cap, rfl, _, _⟩, _⟩, _⟩ := hB
  have HA := hide (heap_alloc_new w (.cells #[.slice a l.length cap, .map (some B)] 52))
  have HB0 := hide (below_alloc4 w (.cells #[.slice a l.length cap, .map (some B)] 52))
  clear hT hs
  go_enter Tryz.func37, Tryz.ntmps37
  go_wp2_with fail
  generalize w.alloc (.cells #[.slice a l.length cap, .map (some B)] 52) = w1 at *
  refine (ownKind_any s w1 (HT.out.next (keep_below HB0.out))).mono ?_
  rintro e w2 ⟨rfl, hb⟩
  have HB2 : Hid (Below w.heap.size w w2) := HB0.out.trans (hb.mono HB0.out.size)
  have q1 : w2.cell? ⟨w.heap.size, 1, none⟩ = some (.map (some B)) := blk_cell (j := 1) ((hb.block _ (blk_lt HA.out)).trans HA.out) rfl
  obtain ⟨n, hm⟩ := (HB.out.next HB2.out).m
  have HM := hide hm
  clear hb hm
  cases ho : ownK s with
  | some k => as_aux_lemma =>
    have HO := hide ho
    clear ho
    simp only [Option.getD_some, Option.isSome_some]
    go_wp2_with fail
    go_ret
    exact ⟨by rw [HO.out]; rfl, HB2.out⟩
  | none => as_aux_lemma =>
    have HO := hide ho
    clear ho
    simp only [Option.getD_none, Option.isSome_none]
    have HG : Hid ((gpl l s).getD 0 = (((plc l s).getD 0 : Nat) : Int)) := by show _ = _; unfold gpl; cases plc l s <;> rfl
    obtain ⟨p, hp⟩ : ∃ p, p = (plc l s).getD 0 := ⟨_, rfl⟩
    rw [← hp] at HG
    have HP := hide hp
    clear hp
    go_wp2_with (refine wpList_lookG rfl rfl rfl rfl HM.out HS.out ?_; rw [HG.out])
    go_ret
    exact ⟨by rw [HO.out, ← HP.out]; simp, HB2.out⟩
set_option maxRecDepth 1000000 in
set_option maxHeartbeats 1000000 in
theorem lost_any (w : World) (hT : Otb w) (vt : Value) (B : Nat) (l : List Tp) (hB : Sbok w vt B l) (r : Rf) (hs : r.n.size ≤ 140737488351232) : Calls Tryz.prog 41 #[.agg #[vt, .map (some B)], .agg #[.string r.n, .bool r.z]] w fun e w' => e = .returned (.bool (!(fnd l r.n).2)) ∧ Below w.heap.size w w' := by
  have HT := hide hT
  have HB := hide hB
  have HS := hide hs
  obtain ⟨⟨⟨a, cap, rfl, _, _⟩, _⟩, _⟩ := hB
  have h1 := heap_alloc_new w (.cells #[.slice a l.length cap, .map (some B)] 52)
  have HB0 : Hid (Below w.heap.size w ((w.alloc (.cells #[.slice a l.length cap, .map (some B)] 52)).alloc (.cells #[.string r.n, .bool r.z] 40))) := (below_alloc4 w _).trans ((below_alloc4 _ _).mono (below_alloc4 w _).size)
  have HCB : Hid (∀ j u, (#[.slice a l.length cap, .map (some B)] : Array Value)[j]? = some u → ((w.alloc (.cells #[.slice a l.length cap, .map (some B)] 52)).alloc (.cells #[.string r.n, .bool r.z] 40)).cell? ⟨w.heap.size, 0 + j, none⟩ = some u) := fun j u hu => by rw [Nat.zero_add]; exact blk_cell (blk_alloc _ h1) hu
  have HIB := hide infoBk
  have HAB : Hid (∀ w, (isAgg 52).run Tryz.prog w = .ok true w) := aggBk
  clear hT hs h1
  go_enter Tryz.func41, Tryz.ntmps41
  go_wp2_with (refine wpList_aggAt rfl rfl HIB.out HAB.out w.heap.size 0 #[.slice a l.length cap, .map (some B)] rfl rfl HCB.out ?_)
  generalize (w.alloc (.cells #[.slice a l.length cap, .map (some B)] 52)).alloc (.cells #[.string r.n, .bool r.z] 40) = w1 at *
  refine (find_any w1 (HT.out.next (keep_below HB0.out)) _ B l (HB.out.next HB0.out) r.n HS.out).mono ?_
  rintro e w2 ⟨c, rfl, hc, hb⟩
  have HB2 : Hid (Below w.heap.size w w2) := HB0.out.trans (hb.mono HB0.out.size)
  clear hb
  generalize (fnd l r.n).1 = t at *
  obtain ⟨⟨vf, vc, vw, rfl, ⟨⟨af, cf, rfl, -, hff⟩, hfm⟩, ⟨⟨ac, cc, rfl, -, hcf⟩, hcm⟩, ⟨⟨aw, cw, rfl, -, -⟩, hwm, -⟩⟩, hbd⟩ := hc
  unfold tpc
  have HB3 : Hid (Below w.heap.size w (w2.alloc (.cells #[.string t.n, .int .i64 t.k, .int .i64 t.lo, .int .i64 t.hi, .string t.r.n, .bool t.r.z, .slice af t.fs.length cf, .slice ac t.cs.length cc, .slice aw t.ws.length cw] 45))) := HB2.out.trans ((below_alloc4 w2 _).mono HB2.out.size)
  clear hff hfm hcf hcm hwm
  go_wp2_with fail
  go_ret
  exact ⟨rfl, HB3.out⟩
theorem end_field (w : World) (s : ByteArray) (z : Bool) : (Instr.field 92 (.agg #[.string s, .bool z]) 1).run Tryz.prog w = .ok (.bool z) w := by kernel_rfl
theorem exec_null {o : Oper} {a : Act} {x : Operand} {s : ByteArray} {z : Bool} {w : World} (ho : o.op = .field 92 x 1) (hx : a.eval x = .agg #[.string s, .bool z]) : (execOp a.eval o).run Tryz.prog w = .ok (.value (.bool z)) w := by
  unfold execOp
  have hr := end_field w s z
  simp only [ho, Sem.run_bind, hx, hr, Result.andThen_ok]
  rfl
set_option maxRecDepth 1000000 in
set_option maxHeartbeats 1000000 in
theorem nullTwice_any (w : World) (hT : Otb w) (vt : Value) (B : Nat) (l : List Tp) (hB : Sbok w vt B l) (hl : ∀ t ∈ l, t.r.n.size ≤ 140737488351232) (r : Rf) (hs : r.n.size ≤ 140737488351232) : Calls Tryz.prog 45 #[.agg #[vt, .map (some B)], .agg #[.string r.n, .bool r.z]] w fun e w' => e = .returned (.bool (r.z && (flo l r.n).2)) ∧ Below w.heap.size w w' := by
  have HT := hide hT
  have HB := hide hB
  have HS := hide hs
  have HL := hide hl
  obtain ⟨rn, rz⟩ := r
  simp only at HS ⊢
  obtain ⟨⟨⟨a, cap, rfl, _, _⟩, _⟩, _⟩ := hB
  have h1 := heap_alloc_new w (.cells #[.slice a l.length cap, .map (some B)] 52)
  have HB0 : Hid (∀ z, Below w.heap.size w ((w.alloc (.cells #[.slice a l.length cap, .map (some B)] 52)).alloc (.cells #[.string rn, .bool z] 40))) := fun z => (below_alloc4 w _).trans ((below_alloc4 _ _).mono (below_alloc4 w _).size)
  have HCB : Hid (∀ z j u, (#[.slice a l.length cap, .map (some B)] : Array Value)[j]? = some u → ((w.alloc (.cells #[.slice a l.length cap, .map (some B)] 52)).alloc (.cells #[.string rn, .bool z] 40)).cell? ⟨w.heap.size, 0 + j, none⟩ = some u) := fun z j u hu => by rw [Nat.zero_add]; exact blk_cell (blk_alloc _ h1) hu
  have HIB := hide infoBk
  have HAB : Hid (∀ w, (isAgg 52).run Tryz.prog w = .ok true w) := aggBk
  clear hT hs h1 hl
  cases rz with
  | false => as_aux_lemma =>
    go_enter Tryz.func45, Tryz.ntmps45
    go_wp2_with fail
    go_ret
    exact ⟨rfl, HB0.out false⟩
  | true => as_aux_lemma =>
    go_enter Tryz.func45, Tryz.ntmps45
    replace HB0 := hide (HB0.out true)
    replace HCB := hide (HCB.out true)
    go_wp2_with (refine wpList_aggAt rfl rfl HIB.out HAB.out w.heap.size 0 #[.slice a l.length cap, .map (some B)] rfl rfl HCB.out ?_)
    generalize (w.alloc (.cells #[.slice a l.length cap, .map (some B)] 52)).alloc (.cells #[.string rn, .bool true] 40) = w1 at *
    refine (follow_any w1 (HT.out.next (keep_below HB0.out)) _ B l (HB.out.next HB0.out) HL.out rn HS.out).mono ?_
    rintro e w2 ⟨rfl, hb⟩
    have HB2 : Hid (Below w.heap.size w w2) := HB0.out.trans (hb.mono HB0.out.size)
    clear hb
    go_wp2_with (refine wpList_ex rfl (exec_null rfl rfl) ?_)
    go_ret
    exact ⟨by rw [Bool.true_and]; rfl, HB2.out⟩
end
end Go.Proofs.YtcmfgambfgebfaaGreatDoor
