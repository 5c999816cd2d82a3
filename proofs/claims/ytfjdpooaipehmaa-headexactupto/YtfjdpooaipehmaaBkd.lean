import Derived.Test.YtfjdpooaipehmaaBkc
namespace Go.Proofs.Ytfjdpooaipehmaa
open Go.RowKit

/-- What the loop of Bytes has written. -/
theorem mark_step (m k : Nat) (xs : List Value) (n : Nat) (hx : xs.length = n) (hk : k < n) :
    (bv (mkl m k) ++ xs.drop k).set k (.int .u8 ((atv m k : Nat) : Int)) = bv (mkl m (k + 1)) ++ xs.drop (k + 1) := by
  have hl : (bv (mkl m k)).length = k := by rw [bv_len, mkl_len]
  rw [List.set_append_right (h := by omega), hl, Nat.sub_self, List.drop_eq_getElem_cons (by omega), List.set_cons_zero, mkl_snoc, bv_app, List.append_assoc]
  rfl

theorem snoc_get {α : Type} {l : List α} {x y : α} {i : Nat} (h : (l ++ [x])[i]? = some y) : (i < l.length ∧ l[i]? = some y) ∨ (i = l.length ∧ y = x) := by
  rcases Nat.lt_trichotomy i l.length with hi | hi | hi
  · rw [List.getElem?_append_left hi] at h; exact .inl ⟨hi, h⟩
  · subst hi; simp at h; exact .inr ⟨rfl, h.symm⟩
  · rw [List.getElem?_eq_none (by simp; omega)] at h; cases h

set_option maxRecDepth 1000000 in
set_option maxHeartbeats 400000 in
theorem bytes_any {w : World} {base B : Nat} {vb vo : Value} {es : List Ent} {a t d u : Nat} (h : BookOk w base B vb vo es a t d u) (l : Value) (n : Nat) (xs : List Value) (hl : w.ownsRow base 5 1 l n xs) (hn : n < 68719476736)
    (hd : ∀ e ∈ es, ∀ k, e.val.ownBlock = some k → l.ownBlock ≠ some k) (ht : t + 1 < 68719476736) (hbase : base ≤ w.heap.size) :
    Calls Try.prog 28 #[.pointer (some ⟨B, 0, none⟩), l] w fun e w' => e = .returned (.tuple #[]) ∧ ∃ vb' vo' es' u', BookOk w' base B vb' vo' es' a (t + 1) d u' ∧
      Kp (fun k => k = B ∨ vb.ownBlock = some k ∨ vo.ownBlock = some k ∨ l.ownBlock = some k) w w' ∧
      ∀ k, Foot B vb' vo' es' k → Foot B vb vo es k ∨ l.ownBlock = some k ∨ (w.heap.size ≤ k ∧ k < w'.heap.size) := by
  have c54 : w.cell? ⟨B, 54, none⟩ = some (.int .i64 (t : Nat)) := h.blk.cell 54 _ rfl
  have f54 := blk_frozen 54 h.blk
  have HH := hide h
  have HL := hide hl
  have HD := hide hd
  have htt : (t : Int) + 1 < 68719476736 := by omega
  obtain ⟨al, capl, hlf, hcl, hl1, hl2⟩ := own_form hl
  clear hl1 hl2
  have HLB : Hid (l.ownBlock ≠ some B) := own_not hl h.blk (by decide)
  subst hlf
  clear h hl hd
  have HB1 : Hid (BkBlk (w.setCell ⟨B, 54, none⟩ (.int .i64 ((t : Int) + 1))) B vb vo a (t + 1) d u) := HH.out.blk.set 54 _ (by show _ = _; rfl)
  have HO1 : Hid ((w.setCell ⟨B, 54, none⟩ (.int .i64 ((t : Int) + 1))).ownsRow base 5 1 (.slice al n capl) n xs) :=
    (((Kp.refl (fun k => k = B) w).setCell ⟨B, 54, none⟩ (.int .i64 ((t : Int) + 1)) (fun _ => rfl))).owns HL.out (fun k hk e => HLB.out (by rw [hk, e]))
  have HK1 : Hid (Kp (fun k => k = B ∨ (Value.slice al n capl).ownBlock = some k) w (w.setCell ⟨B, 54, none⟩ (.int .i64 ((t : Int) + 1)))) := (Kp.refl _ w).setCell _ _ (fun _ => .inl rfl)
  go_enter Try.func28, Try.ntmps28
  go_wp2
  go_loopw [5] (fun i wr => ∃ k : Nat, k ≤ n ∧ i = .int .i64 k ∧ BkBlk wr B vb vo a (t + 1) d u ∧ wr.ownsRow base 5 1 (.slice al n capl) n (bv (mkl (t + 1) k) ++ xs.drop k) ∧
      Kp (fun k => k = B ∨ (Value.slice al n capl).ownBlock = some k) w wr ∧ wr.heap.size = w.heap.size) (fun i _ => n - (intOf i).toNat)
  case atStart => exact ⟨0, Nat.zero_le _, rfl, HB1.out, by simpa [mkl, bv] using HO1.out, HK1.out, by simp [World.setCell]⟩
  case round =>
    obtain ⟨k, hk, rfl, hblk, hown, hkp, hsz⟩ := hrel
    clear HB1 HO1 HK1 c54 f54
    have HBK := hide hblk
    have HOW := hide hown
    have HKP := hide hkp
    have HSZ := hide hsz
    clear hblk hown hkp hsz
    by_cases hlt : k < n
    · have hlt' : (k : Int) < (n : Int) := by omega
      have hxl : xs.length = n := by have := HL.out.1; omega
      obtain ⟨g, hg⟩ : ∃ g, al = some ⟨g, 0, none⟩ := by
        rcases HL.out.2 with ⟨_, h0⟩ | ⟨g, _, _, hv, _⟩
        · omega
        · injection hv with hv; exact ⟨g, hv⟩
      subst hg
      obtain ⟨hc, hfz⟩ := own_cell HOW.out (j := k) (u := xs[k]'(by omega)) (by
        rw [List.getElem?_append_right (by rw [bv_len, mkl_len]; omega), bv_len, mkl_len, Nat.sub_self]
        simp)
      have HAT : Hid (∀ W, Calls Try.prog 35 #[.int .i64 ((t : Int) + 1), .int .i64 (k : Int)] W fun e w' => e = .returned (.int .u8 ((atv (t + 1) k : Nat) : Int)) ∧ w' = W) := fun W => by
        have := at_any ((t : Int) + 1) (k : Int) W (by omega) (by omega) (by omega) (by omega)
        have e1 : ((t : Int) + 1).toNat = t + 1 := by omega
        rw [e1, Int.toNat_natCast] at this
        exact this
      have HST := hide (mark_step (t + 1) k xs n hxl hlt)
      generalize xs[k]'(by omega) = old at hc
      clear hxl
      go_wp2_with fail
      refine (HAT.out _).mono ?_
      rintro e w' ⟨rfl, rfl⟩
      go_wp2
      go_roundw
      case rel =>
        refine ⟨k + 1, by omega, by go_num, ?_, ?_, ?_, ?_⟩
        · exact HBK.out.kp ((Kp.refl (fun q => q = g) _).setCell _ _ (fun _ => rfl)) (fun e => HLB.out (by simp [Value.ownBlock]; exact e.symm))
        · rw [← HST.out]; exact own_set _ HOW.out
        · exact HKP.out.setCell _ _ (fun _ => .inr rfl)
        · have := HSZ.out; simp [World.setCell]; exact this
      case measure => simp [intOf]; omega
    · have hlt' : ¬ (k : Int) < (n : Int) := by omega
      have hkn : k = n := by omega
      have hxl : xs.length = n := by have := HL.out.1; omega
      have hw := HOW.out
      rw [hkn, List.drop_of_length_le (by omega), List.append_nil] at hw
      have HW := hide hw
      clear hw HOW hkn hxl
      -- what the book held lies apart from what was written
      have HE : Hid (∀ e ∈ es, ∀ q, e.val.ownBlock = some q → ¬ (q = B ∨ (Value.slice al n capl).ownBlock = some q)) := by
        intro e he q hq hor
        rcases hor with rfl | hor
        · exact own_not (HH.out.he e he) HH.out.blk (by decide) hq
        · exact HD.out e he q hq hor
      have HVB : Hid (wr.ownsRow base 53 1 vb es.length (es.map (·.val))) := HKP.out.owns HH.out.hb (fun q hq hor => by
        rcases hor with rfl | hor
        · exact own_not HH.out.hb HH.out.blk (by decide) hq
        · exact own_apart HH.out.hb HL.out (by decide) hq hor)
      have HVO : Hid (wr.ownsRow base 3 1 vo es.length (es.map fun e => .int .i64 ((e.m : Nat) : Int))) := HKP.out.owns HH.out.ho (fun q hq hor => by
        rcases hor with rfl | hor
        · exact own_not HH.out.ho HH.out.blk (by decide) hq
        · exact own_apart HH.out.ho HL.out (by decide) hq hor)
      have HEE : Hid (∀ e ∈ es, wr.ownsRow base 5 1 e.val e.n (bv (mkl e.m e.n))) := fun e he => HKP.out.owns (HH.out.he e he) (HE.out e he)
      have hu := HH.out.hu
      by_cases hfull : (16777216 : Int) < (u : Int) + (1200 + 3 * (n : Int))
      · go_wp2_with fail
        refine (tight_full HBK.out (1200 + 3 * (n : Int)) hu (by omega) (by omega) (by omega)).mono ?_
        rintro e w' ⟨rfl, rfl⟩
        go_wp2
        refine bodyPost_ret (results_none rfl _ _ _) rfl ?_
        refine ⟨rfl, vb, vo, es, u, ?_, HKP.out.mono (fun q _ hor => by rcases hor with h | h; exact .inl h; exact .inr (.inr (.inr h))), fun q hq => .inl hq⟩
        exact ⟨HBK.out, HVB.out, HVO.out, HEE.out, HH.out.hs, HH.out.hbase, fun e he => ⟨by have := (HH.out.hm e he).1; omega, (HH.out.hm e he).2⟩, ht, hu, HH.out.count, HH.out.hg, HH.out.hn⟩
      · go_wp2_with fail
        refine (tight_room HBK.out (1200 + 3 * (n : Int)) hu (by omega) (by omega) (by omega)).mono ?_
        rintro e w2 ⟨rfl, hblk2, hkp2⟩
        have e1 : u + (1200 + 3 * (n : Int)).toNat = u + (1200 + 3 * n) := by omega
        rw [e1] at hblk2
        clear e1
        have hnb : ∀ {ee : TypeId} {v : Value} {nn : Nat} {yy : List Value}, wr.ownsRow base ee 1 v nn yy → ee ≠ 46 → w2.ownsRow base ee 1 v nn yy := fun ho hne => hkp2.owns ho (fun q hq e => own_not ho HBK.out hne (by rw [hq, e]))
        have HVB2 := hide (hnb HVB.out (by decide))
        have HVO2 := hide (hnb HVO.out (by decide))
        have HW2 := hide (hnb HW.out (by decide))
        have HEE2 : Hid (∀ e ∈ es, w2.ownsRow base 5 1 e.val e.n (bv (mkl e.m e.n))) := fun e he => hnb (HEE.out e he) (by decide)
        have hsz2 : w.heap.size ≤ w2.heap.size := Nat.le_trans HKP.out.size hkp2.size
        have HK2 : Hid (Kp (fun q => q = B ∨ vb.ownBlock = some q ∨ vo.ownBlock = some q ∨ (Value.slice al n capl).ownBlock = some q) w w2) :=
          (HKP.out.mono (fun q _ hor => by rcases hor with h | h; exact .inl h; exact .inr (.inr (.inr h)))).trans hkp2 (fun q _ hq => .inl hq)
        have c0 : w2.cell? ⟨B, 0, none⟩ = some vb := hblk2.cell 0 _ rfl
        have HBK2 := hide hblk2
        have hlen : es.length < 1099511627776 := by
          obtain ⟨c, r, h1, h2, h3⟩ := HH.out.count
          omega
        have HBO : Hid (vo.ownBlock ≠ some B) := own_not HVO.out HBK.out (by decide)
        have HBB : Hid (vb.ownBlock ≠ some B) := own_not HVB.out HBK.out (by decide)
        clear hblk2 hkp2 hnb HVB HVO HW HEE HBK HKP hlt
        go_wp2_with (at_builtin; refine append_row rfl _ _ rfl base vb es.length _ rfl HVB2.out _ _ rfl rfl rfl hlen (by omega) ?_)
        intro v3 w3 ho3 hg3 hat3
        obtain ⟨a3, c3, hv3, hq1, hq2, hq3⟩ := own_form ho3
        clear hq1 hq2 hq3
        subst hv3
        obtain ⟨v3, hv3⟩ : ∃ v3, v3 = Value.slice a3 (es.length + 1) c3 := ⟨_, rfl⟩
        rw [← hv3] at ho3 hat3
        have hblk3 : BkBlk w3 B vb vo a (t + 1) d (u + (1200 + 3 * n)) := (HBK2.out.alloc _).grown hg3 HBB.out
        have c0' : w3.cell? ⟨B, 0, none⟩ = some vb := hblk3.cell 0 _ rfl
        have c1' : w3.cell? ⟨B, 1, none⟩ = some vo := hblk3.cell 1 _ rfl
        have f0' := blk_frozen 0 hblk3
        have hblk4 : BkBlk (w3.setCell ⟨B, 0, none⟩ v3) B v3 vo a (t + 1) d (u + (1200 + 3 * n)) := hblk3.set 0 _ rfl
        have hkg : Kp (fun q => vb.ownBlock = some q) w2 w3 := ((Kp.refl _ w2).alloc _).grown hg3 (fun q _ hq => hq)
        have hk34 : Kp (fun q => q = B) w3 (w3.setCell ⟨B, 0, none⟩ v3) := (Kp.refl _ _).setCell _ _ (fun _ => rfl)
        have hk24 : Kp (fun q => q = B ∨ vb.ownBlock = some q) w2 (w3.setCell ⟨B, 0, none⟩ v3) := (hkg.mono (fun _ _ h => .inr h)).trans hk34 (fun _ _ h => .inl h)
        have hv3B : v3.ownBlock ≠ some B := own_not ho3 hblk3 (by decide)
        have HV4 : Hid ((w3.setCell ⟨B, 0, none⟩ v3).ownsRow base 53 1 v3 (es.length + 1) (es.map (·.val) ++ [Value.slice al n capl])) := hk34.owns ho3 (fun q hq e => hv3B (by rw [hq, e]))
        have HVO4 : Hid ((w3.setCell ⟨B, 0, none⟩ v3).ownsRow base 3 1 vo es.length (es.map fun e => .int .i64 ((e.m : Nat) : Int))) := hk24.owns HVO2.out (fun q hq hor => by
          rcases hor with rfl | hor
          · exact HBO.out hq
          · exact own_apart HVO2.out HVB2.out (by decide) hq hor)
        have HW4 : Hid ((w3.setCell ⟨B, 0, none⟩ v3).ownsRow base 5 1 (.slice al n capl) n (bv (mkl (t + 1) n))) := hk24.owns HW2.out (fun q hq hor => by
          rcases hor with rfl | hor
          · exact HLB.out hq
          · exact own_apart HW2.out HVB2.out (by decide) hq hor)
        have HEE4 : Hid (∀ e ∈ es, (w3.setCell ⟨B, 0, none⟩ v3).ownsRow base 5 1 e.val e.n (bv (mkl e.m e.n))) := fun e he => hk24.owns (HEE2.out e he) (fun q hq hor => by
          rcases hor with rfl | hor
          · exact own_not (HEE2.out e he) HBK2.out (by decide) hq
          · exact own_apart (HEE2.out e he) HVB2.out (by decide) hq hor)
        have HK4 := hide (HK2.out.trans hk24 (fun q _ hor => by rcases hor with h | h; exact .inl h; exact .inr (.inl h)))
        have HB4 := hide hblk4
        have HS4 : Hid (w.heap.size ≤ w3.heap.size) := Nat.le_trans HK2.out.size hkg.size
        have HV3 : Hid (∀ q, v3.ownBlock = some q → vb.ownBlock = some q ∨ w.heap.size ≤ q) := fun q hq => by
          rcases hat3 with h | h
          · exact .inl (by rw [← h]; exact hq)
          · rw [h] at hq; injection hq with hq; exact .inr (by omega)
        subst hv3
        have HLEN := hide hlen
        have HN := hide hn
        have HT := hide ht
        clear hlen hn ht htt
        clear hat3 ho3 hg3 hblk3 hblk4 hkg hk34 hk24 hv3B HBK2 HVB2 HVO2 HW2 HEE2 HK2 c0
        go_wp2_with (at_builtin; go_must (refine append_int rfl _ _ rfl base vo es.length _ rfl HVO4.out _ w3.heap.size (by simp) rfl HLEN.out (by have := HK4.out.size; omega) ?_))
        intro v5 w5 ho5 hg5 hat5
        clear c0' c1' f0'
        generalize w3.setCell ⟨B, 0, none⟩ (Value.slice a3 (es.length + 1) c3) = w4 at *
        obtain ⟨a5, c5, hv5, hq1, hq2, hq3⟩ := own_form ho5
        clear hq1 hq2 hq3
        have hblk5 : BkBlk w5 B (Value.slice a3 (es.length + 1) c3) vo a (t + 1) d (u + (1200 + 3 * n)) := (HB4.out.alloc _).grown hg5 HBO.out
        have c1' : w5.cell? ⟨B, 1, none⟩ = some vo := hblk5.cell 1 _ rfl
        have f1' := blk_frozen 1 hblk5
        have hblk6 : BkBlk (w5.setCell ⟨B, 1, none⟩ v5) B (Value.slice a3 (es.length + 1) c3) v5 a (t + 1) d (u + (1200 + 3 * n)) := hblk5.set 1 _ rfl
        have hkg5 : Kp (fun q => vo.ownBlock = some q) w4 w5 := ((Kp.refl _ w4).alloc _).grown hg5 (fun q _ hq => hq)
        have hk56 : Kp (fun q => q = B) w5 (w5.setCell ⟨B, 1, none⟩ v5) := (Kp.refl _ _).setCell _ _ (fun _ => rfl)
        have hk46 : Kp (fun q => q = B ∨ vo.ownBlock = some q) w4 (w5.setCell ⟨B, 1, none⟩ v5) := (hkg5.mono (fun _ _ h => .inr h)).trans hk56 (fun _ _ h => .inl h)
        have hv5B : v5.ownBlock ≠ some B := own_not ho5 hblk5 (by decide)
        have HV6 : Hid ((w5.setCell ⟨B, 1, none⟩ v5).ownsRow base 3 1 v5 (es.length + 1) (es.map (fun e => .int .i64 ((e.m : Nat) : Int)) ++ [.int .i64 ((t : Int) + 1)])) := hk56.owns ho5 (fun q hq e => hv5B (by rw [hq, e]))
        have HVB6 : Hid ((w5.setCell ⟨B, 1, none⟩ v5).ownsRow base 53 1 (Value.slice a3 (es.length + 1) c3) (es.length + 1) (es.map (·.val) ++ [Value.slice al n capl])) := hk46.owns HV4.out (fun q hq hor => by
          rcases hor with rfl | hor
          · exact own_not HV4.out HB4.out (by decide) hq
          · exact own_apart HV4.out HVO4.out (by decide) hq hor)
        have HW6 : Hid ((w5.setCell ⟨B, 1, none⟩ v5).ownsRow base 5 1 (.slice al n capl) n (bv (mkl (t + 1) n))) := hk46.owns HW4.out (fun q hq hor => by
          rcases hor with rfl | hor
          · exact HLB.out hq
          · exact own_apart HW4.out HVO4.out (by decide) hq hor)
        have HEE6 : Hid (∀ e ∈ es, (w5.setCell ⟨B, 1, none⟩ v5).ownsRow base 5 1 e.val e.n (bv (mkl e.m e.n))) := fun e he => hk46.owns (HEE4.out e he) (fun q hq hor => by
          rcases hor with rfl | hor
          · exact own_not (HEE4.out e he) HB4.out (by decide) hq
          · exact own_apart (HEE4.out e he) HVO4.out (by decide) hq hor)
        have HK6 := hide (HK4.out.trans hk46 (fun q _ hor => by rcases hor with h | h; exact .inl h; exact .inr (.inr (.inl h))))
        have HB6 := hide hblk6
        have HV5 : Hid (∀ q, v5.ownBlock = some q → vo.ownBlock = some q ∨ w.heap.size ≤ q) := fun q hq => by
          rcases hat5 with h | h
          · exact .inl (by rw [← h]; exact hq)
          · rw [h] at hq; injection hq with hq; exact .inr (by have := HS4.out; omega)
        have HI6 : Hid (∀ q, v5.ownBlock = some q → q < (w5.setCell ⟨B, 1, none⟩ v5).heap.size) := fun q hq => (HV6.out.lt q hq).2
        subst hv5
        clear ho5 hg5 hat5 hblk5 hblk6 hkg5 hk56 hk46 hv5B
        go_wp2
        go_end0
        refine ⟨rfl, Value.slice a3 (es.length + 1) c3, Value.slice a5 (es.length + 1) c5, es ++ [⟨Value.slice al n capl, n, t + 1⟩], u + (1200 + 3 * n), ?_, HK6.out, ?_⟩
        · refine ⟨HB6.out, by simpa using HVB6.out, by simpa using HV6.out, ?_, ?_, HH.out.hbase, ?_, HT.out, by omega, ?_, ?_, ?_⟩
          · intro e he
            rcases List.mem_append.1 he with he | he
            · exact HEE6.out e he
            · simp at he; subst he; exact HW6.out
          · intro e he e' he' q hq hq'
            rcases List.mem_append.1 he with he | he <;> rcases List.mem_append.1 he' with he' | he'
            · exact HH.out.hs e he e' he' q hq hq'
            · simp at he'; subst he'; exact absurd hq' (HD.out e he q hq)
            · simp at he; subst he; exact absurd hq (HD.out e' he' q hq')
            · simp at he he'; subst he; subst he'; rfl
          · intro e he
            rcases List.mem_append.1 he with he | he
            · exact ⟨by have := (HH.out.hm e he).1; omega, (HH.out.hm e he).2⟩
            · simp at he; subst he; exact ⟨Nat.le_refl _, Nat.lt_of_lt_of_le HN.out (by decide)⟩
          · obtain ⟨c, r, h1, h2, h3⟩ := HH.out.count
            exact ⟨c, r + 1, h1, by simp; omega, by omega⟩
          · intro i j ei ej hi hj haj hij q hq
            rcases snoc_get hi with ⟨_, hi⟩ | ⟨hi0, hi⟩ <;> rcases snoc_get hj with ⟨_, hj⟩ | ⟨hj0, hj⟩
            · exact HH.out.hg i j ei ej hi hj haj hij q hq
            · subst hj; exact HD.out ei (List.mem_of_getElem? hi) q hq
            · subst hi; exact fun hq' => HD.out ej (List.mem_of_getElem? hj) q hq' hq
            · omega
          · intro j ej hj haj
            rcases snoc_get hj with ⟨_, hj⟩ | ⟨_, hj⟩
            · exact HH.out.hn j ej hj haj
            · subst hj; exact HN.out
        · intro q hq
          rcases hq with hq | hq | hq | ⟨e, he, hq⟩
          · exact .inl (.inl hq)
          · rcases HV3.out q hq with h | h
            · exact .inl (.inr (.inl h))
            · exact .inr (.inr ⟨h, (HVB6.out.lt q hq).2⟩)
          · rcases HV5.out q hq with h | h
            · exact .inl (.inr (.inr (.inl h)))
            · exact .inr (.inr ⟨h, HI6.out q hq⟩)
          · rcases List.mem_append.1 he with he | he
            · exact .inl (.inr (.inr (.inr ⟨e, he, hq⟩)))
            · simp at he; subst he; exact .inr (.inl hq)
end Go.Proofs.Ytfjdpooaipehmaa
