import Derived.Test.YtfjdpooaipehmaaBkg
namespace Go.Proofs.Ytfjdpooaipehmaa
open Go.RowKit

theorem BookOk.still {w w' : World} {base B : Nat} {vb vo : Value} {es : List Ent} {a t d u : Nat} (h : BookOk w base B vb vo es a t d u) (hk : Kp (fun _ => False) w w') : BookOk w' base B vb vo es a t d u :=
  h.kp hk (fun h => h) (fun _ _ h => h) (fun _ _ h => h) (fun _ _ _ _ h => h)
/-- What touches the book's own block alone keeps the rows. -/
theorem BookOk.reblk {w w' : World} {base B : Nat} {vb vo : Value} {es : List Ent} {a t d u d' : Nat} (h : BookOk w base B vb vo es a t d u) (hb : BkBlk w' B vb vo a t d' u) (hk : Kp (fun k => k = B) w w') : BookOk w' base B vb vo es a t d' u :=
  ⟨hb, hk.owns h.hb (fun q hq e => own_not h.hb h.blk (by decide) (by rw [hq, e])), hk.owns h.ho (fun q hq e => own_not h.ho h.blk (by decide) (by rw [hq, e])), fun x hx => hk.owns (h.he x hx) (fun q hq e => own_not (h.he x hx) h.blk (by decide) (by rw [hq, e])), h.hs, h.hbase, h.hm, h.ht, h.hu, h.count, h.hg, h.hn⟩

set_option maxRecDepth 1000000 in
set_option maxHeartbeats 400000 in
theorem holds_any {w : World} {base B : Nat} {vb vo : Value} {es : List Ent} {a t d u : Nat} (h : BookOk w base B vb vo es a t d u) :
    Calls Try.prog 31 #[.pointer (some ⟨B, 0, none⟩)] w fun e w' => e = .returned (.bool true) ∧ Kp (fun _ => False) w w' := by
  have HH := hide h
  clear h
  go_enter Try.func31, Try.ntmps31
  go_wp2_with fail
  refine (plain_any HH.out).mono ?_
  rintro e w1 ⟨rfl, hk1⟩
  have HK1 := hide hk1
  have HB1 := hide (HH.out.still hk1).blk
  clear hk1
  go_wp2_with fail
  refine (kept_any HB1.out).mono ?_
  rintro e w2 ⟨rfl, rfl⟩
  go_wp2_with fail
  refine (told_any HB1.out).mono ?_
  rintro e w2 ⟨rfl, rfl⟩
  go_wp2_with fail
  refine (held_any HB1.out).mono ?_
  rintro e w2 ⟨rfl, rfl⟩
  go_wp2_with fail
  refine (sent_any HB1.out).mono ?_
  rintro e w2 ⟨rfl, rfl⟩
  go_wp2
  go_ret
  exact ⟨rfl, HK1.out⟩

set_option maxRecDepth 1000000 in
set_option maxHeartbeats 1000000 in
theorem grow_any {w : World} {base B : Nat} {vb vo : Value} {es : List Ent} {a t d u : Nat} (h : BookOk w base B vb vo es a t d u) (hbase : base ≤ w.heap.size) :
    Calls Try.prog 32 #[.pointer (some ⟨B, 0, none⟩)] w fun e w' => e = .returned (.tuple #[]) ∧ ∃ vb' vo' es' a', BookOk w' base B vb' vo' es' a' t t u ∧
      Kp (Foot B vb vo es) w w' ∧ ∀ q, Foot B vb' vo' es' q → Foot B vb vo es q ∨ w.heap.size ≤ q := by
  have HH := hide h
  have HBS := hide hbase
  clear h hbase
  go_enter Try.func32, Try.ntmps32
  go_wp2_with fail
  refine (growBytes_any HH.out HBS.out).mono ?_
  rintro e w1 ⟨rfl, vb1, vo1, es1, a1, hok1, hk1, hf1⟩
  have HOK := hide hok1
  have HK1 := hide hk1
  have HF1 := hide hf1
  have HBK := hide hok1.blk
  have HKB : Hid (Kp (fun k => k = B) w1 w1) := Kp.refl _ _
  clear hok1 hk1 hf1
  go_wp2_with fail
  refine (grow38_any HBK.out).mono ?_
  rintro e wn ⟨rfl, hbn, hkn⟩
  have HKB' := hide (HKB.out.trans hkn (fun _ _ h => h))
  have HBK' := hide hbn
  clear HKB HBK hbn hkn
  have HKB := HKB'
  have HBK := HBK'
  clear HKB' HBK'
  go_wp2_with fail
  refine (grow39_any HBK.out).mono ?_
  rintro e wn ⟨rfl, hbn, hkn⟩
  have HKB' := hide (HKB.out.trans hkn (fun _ _ h => h))
  have HBK' := hide hbn
  clear HKB HBK hbn hkn
  have HKB := HKB'
  have HBK := HBK'
  clear HKB' HBK'
  go_wp2_with fail
  refine (grow40_any HBK.out).mono ?_
  rintro e wn ⟨rfl, hbn, hkn⟩
  have HKB' := hide (HKB.out.trans hkn (fun _ _ h => h))
  have HBK' := hide hbn
  clear HKB HBK hbn hkn
  have HKB := HKB'
  have HBK := HBK'
  clear HKB' HBK'
  go_wp2_with fail
  refine (grow41_any HBK.out).mono ?_
  rintro e wn ⟨rfl, hbn, hkn⟩
  have HKB' := hide (HKB.out.trans hkn (fun _ _ h => h))
  have HBK' := hide hbn
  clear HKB HBK hbn hkn
  have HKB := HKB'
  have HBK := HBK'
  clear HKB' HBK'
  go_wp2_with fail
  refine (grow42_any HBK.out).mono ?_
  rintro e wn ⟨rfl, hbn, hkn⟩
  have HKB' := hide (HKB.out.trans hkn (fun _ _ h => h))
  have HBK' := hide hbn
  clear HKB HBK hbn hkn
  have HKB := HKB'
  have HBK := HBK'
  clear HKB' HBK'
  go_wp2_with fail
  refine (grow43_any HBK.out).mono ?_
  rintro e wn ⟨rfl, hbn, hkn⟩
  have HKB' := hide (HKB.out.trans hkn (fun _ _ h => h))
  have HBK' := hide hbn
  clear HKB HBK hbn hkn
  have HKB := HKB'
  have HBK := HBK'
  clear HKB' HBK'
  go_wp2_with fail
  refine (grow44_any HBK.out).mono ?_
  rintro e wn ⟨rfl, hbn, hkn⟩
  have HKB' := hide (HKB.out.trans hkn (fun _ _ h => h))
  have HBK' := hide hbn
  clear HKB HBK hbn hkn
  have HKB := HKB'
  have HBK := HBK'
  clear HKB' HBK'
  go_wp2_with fail
  refine (grow45_any HBK.out).mono ?_
  rintro e wn ⟨rfl, hbn, hkn⟩
  have HKB' := hide (HKB.out.trans hkn (fun _ _ h => h))
  have HBK' := hide hbn
  clear HKB HBK hbn hkn
  have HKB := HKB'
  have HBK := HBK'
  clear HKB' HBK'
  go_wp2_with fail
  refine (grow46_any HBK.out).mono ?_
  rintro e wn ⟨rfl, hbn, hkn⟩
  have HKB' := hide (HKB.out.trans hkn (fun _ _ h => h))
  have HBK' := hide hbn
  clear HKB HBK hbn hkn
  have HKB := HKB'
  have HBK := HBK'
  clear HKB' HBK'
  go_wp2_with fail
  refine (grow47_any HBK.out).mono ?_
  rintro e wn ⟨rfl, hbn, hkn⟩
  have HKB' := hide (HKB.out.trans hkn (fun _ _ h => h))
  have HBK' := hide hbn
  clear HKB HBK hbn hkn
  have HKB := HKB'
  have HBK := HBK'
  clear HKB' HBK'
  go_wp2_with fail
  refine (grow48_any HBK.out).mono ?_
  rintro e wn ⟨rfl, hbn, hkn⟩
  have HKB' := hide (HKB.out.trans hkn (fun _ _ h => h))
  have HBK' := hide hbn
  clear HKB HBK hbn hkn
  have HKB := HKB'
  have HBK := HBK'
  clear HKB' HBK'
  go_wp2_with fail
  refine (grow49_any HBK.out).mono ?_
  rintro e wn ⟨rfl, hbn, hkn⟩
  have HKB' := hide (HKB.out.trans hkn (fun _ _ h => h))
  have HBK' := hide hbn
  clear HKB HBK hbn hkn
  have HKB := HKB'
  have HBK := HBK'
  clear HKB' HBK'
  go_wp2_with fail
  refine (grow50_any HBK.out).mono ?_
  rintro e wn ⟨rfl, hbn, hkn⟩
  have HKB' := hide (HKB.out.trans hkn (fun _ _ h => h))
  have HBK' := hide hbn
  clear HKB HBK hbn hkn
  have HKB := HKB'
  have HBK := HBK'
  clear HKB' HBK'
  go_wp2_with fail
  refine (grow51_any HBK.out).mono ?_
  rintro e wn ⟨rfl, hbn, hkn⟩
  have HKB' := hide (HKB.out.trans hkn (fun _ _ h => h))
  have HBK' := hide hbn
  clear HKB HBK hbn hkn
  have HKB := HKB'
  have HBK := HBK'
  clear HKB' HBK'
  go_wp2_with fail
  refine (grow52_any HBK.out).mono ?_
  rintro e wn ⟨rfl, hbn, hkn⟩
  have HKB' := hide (HKB.out.trans hkn (fun _ _ h => h))
  have HBK' := hide hbn
  clear HKB HBK hbn hkn
  have HKB := HKB'
  have HBK := HBK'
  clear HKB' HBK'
  go_wp2_with fail
  refine (grow53_any HBK.out).mono ?_
  rintro e wn ⟨rfl, hbn, hkn⟩
  have HKB' := hide (HKB.out.trans hkn (fun _ _ h => h))
  have HBK' := hide hbn
  clear HKB HBK hbn hkn
  have HKB := HKB'
  have HBK := HBK'
  clear HKB' HBK'
  go_wp2_with fail
  refine (grow54_any HBK.out).mono ?_
  rintro e wn ⟨rfl, hbn, hkn⟩
  have HKB' := hide (HKB.out.trans hkn (fun _ _ h => h))
  have HBK' := hide hbn
  clear HKB HBK hbn hkn
  have HKB := HKB'
  have HBK := HBK'
  clear HKB' HBK'
  have c54 : wn.cell? ⟨B, 54, none⟩ = some (.int .i64 (t : Nat)) := HBK.out.cell 54 _ rfl
  have c55 : wn.cell? ⟨B, 55, none⟩ = some (.int .i64 (d : Nat)) := HBK.out.cell 55 _ rfl
  have f55 := blk_frozen 55 HBK.out
  go_wp2
  go_end0
  have hb : BkBlk (wn.setCell ⟨B, 55, none⟩ (.int .i64 (t : Nat))) B vb1 vo1 a1 t t u := HBK.out.set 55 _ rfl
  have hk : Kp (fun k => k = B) w1 (wn.setCell ⟨B, 55, none⟩ (.int .i64 (t : Nat))) := HKB.out.setCell _ _ (fun _ => rfl)
  exact ⟨rfl, vb1, vo1, es1, a1, HOK.out.reblk hb hk, HK1.out.trans hk (fun q _ hq => .inl hq), HF1.out⟩

/-- A book at block B, all of whose memory lies within F; t lists have been handed to it. -/
def BookAt (w : World) (base B : Nat) (F : Nat → Prop) (t : Nat) : Prop := ∃ vb vo es a d u, BookOk w base B vb vo es a t d u ∧ ∀ k, Foot B vb vo es k → F k

theorem foot_lt {w : World} {base B : Nat} {vb vo : Value} {es : List Ent} {a t d u : Nat} (h : BookOk w base B vb vo es a t d u) : ∀ k, Foot B vb vo es k → base ≤ k ∧ k < w.heap.size := by
  intro k hk
  rcases hk with rfl | hk | hk | ⟨e, he, hk⟩
  · exact ⟨h.hbase, blk_lt h.blk⟩
  · exact own_back h.hb k hk
  · exact own_back h.ho k hk
  · exact own_back (h.he e he) k hk

theorem BookAt.kp {S : Nat → Prop} {w w' : World} {base B : Nat} {F : Nat → Prop} {t : Nat} (h : BookAt w base B F t) (hk : Kp S w w') (hs : ∀ k, F k → ¬ S k) : BookAt w' base B F t := by
  obtain ⟨vb, vo, es, a, d, u, hok, hf⟩ := h
  exact ⟨vb, vo, es, a, d, u, hok.kp hk (hs B (hf B (.inl rfl))) (fun k hk => hs k (hf k (.inr (.inl hk)))) (fun k hk => hs k (hf k (.inr (.inr (.inl hk))))) (fun e he k hk => hs k (hf k (.inr (.inr (.inr ⟨e, he, hk⟩))))), hf⟩
theorem BookAt.mono {w : World} {base B : Nat} {F G : Nat → Prop} {t : Nat} (h : BookAt w base B F t) (hg : ∀ k, k < w.heap.size → F k → G k) : BookAt w base B G t := by
  obtain ⟨vb, vo, es, a, d, u, hok, hf⟩ := h
  exact ⟨vb, vo, es, a, d, u, hok, fun k hk => hg k (foot_lt hok k hk).2 (hf k hk)⟩

set_option maxRecDepth 1000000 in
set_option maxHeartbeats 400000 in
theorem look_any {w : World} {base B : Nat} {F : Nat → Prop} {t : Nat} (h : BookAt w base B F t) (hbase : base ≤ w.heap.size) :
    Calls Try.prog 18 #[.pointer (some ⟨B, 0, none⟩)] w fun e w' => e = .returned (.bool true) ∧ Hid (BookAt w' base B (fun k => F k ∨ w.heap.size ≤ k) t ∧ Kp F w w') := by
  obtain ⟨vb, vo, es, a, d, u, hok, hf⟩ := h
  have HOK := hide hok
  have HF := hide hf
  have HBS := hide hbase
  clear hok hf hbase
  go_enter Try.func18, Try.ntmps18
  go_wp2_with fail
  refine (holds_any HOK.out).mono ?_
  rintro e w1 ⟨rfl, hk1⟩
  have HOK1 := hide (HOK.out.still hk1)
  have HK1 := hide hk1
  have c54 : w1.cell? ⟨B, 54, none⟩ = some (.int .i64 (t : Nat)) := HOK1.out.blk.cell 54 _ rfl
  have c55 : w1.cell? ⟨B, 55, none⟩ = some (.int .i64 (d : Nat)) := HOK1.out.blk.cell 55 _ rfl
  clear hk1
  by_cases hdt : d = t
  · have hdt' : ((d : Int) == (t : Int)) = true := beq_iff_eq.2 (by omega)
    have HDT := hide hdt
    clear hdt
    go_wp2
    go_quiet (fail)
    go_wp2
    go_ret
    exact ⟨rfl, ⟨vb, vo, es, a, d, u, HOK1.out.still ((Kp.refl _ _).drewN _), fun k hk => .inl (HF.out k hk)⟩, (HK1.out.mono (fun _ _ h => h.elim)).drewN _⟩
  · have hdt' : ((d : Int) == (t : Int)) = false := beq_eq_false_iff_ne.2 (by omega)
    clear hdt
    go_wp2
    go_quiet (fail)
    go_wp2_with fail
    refine (grow_any (HOK1.out.still ((Kp.refl _ _).drewN _)) (Nat.le_trans HBS.out HK1.out.size)).mono ?_
    rintro e w2 ⟨rfl, vb2, vo2, es2, a2, hok2, hk2, hf2⟩
    have HOK2 := hide hok2
    have HK2 := hide hk2
    have HF2 := hide hf2
    clear hok2 hk2 hf2
    go_wp2_with fail
    refine (holds_any HOK2.out).mono ?_
    rintro e w3 ⟨rfl, hk3⟩
    have HOK3 := hide (HOK2.out.still hk3)
    have HK3 := hide hk3
    clear hk3
    go_wp2
    go_ret
    refine ⟨rfl, ⟨vb2, vo2, es2, a2, t, u, HOK3.out, fun k hk => ?_⟩, ?_⟩
    · rcases HF2.out k hk with h | h
      · exact .inl (HF.out k h)
      · exact .inr (Nat.le_trans HK1.out.size h)
    · exact ((HK1.out.mono (fun _ _ h => h.elim)).drewN _).trans ((HK2.out.trans HK3.out (fun _ _ h => h.elim)).mono (fun k _ hk => HF.out k hk)) (fun _ _ h => h)
end Go.Proofs.Ytfjdpooaipehmaa
