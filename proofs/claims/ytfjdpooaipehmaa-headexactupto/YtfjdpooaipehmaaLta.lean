import Derived.Test.YtfjdpooaipehmaaBkh
import Derived.Laws.IdiomStrings
import Derived.Deep.RegionLaw
namespace Go.Proofs.Ytfjdpooaipehmaa
open Go.RowKit

/-- An answer that waits, and what it must hold. -/
structure Wait where
  got : Value
  want : Value
  xs : List Nat

structure LateOk (w : World) (base L : Nat) (vg vw : Value) (ps : List Wait) : Prop where
  blk : w.heap[L]? = some (.cells #[vg, vw] 49 (0, 0))
  hg : w.ownsRow base 53 1 vg ps.length (ps.map (·.got))
  hw : w.ownsRow base 53 1 vw ps.length (ps.map (·.want))
  apart : ∀ k, vg.ownBlock = some k → vw.ownBlock ≠ some k
  got : ∀ p ∈ ps, w.ownsRow base 5 1 p.got p.xs.length (bv p.xs)
  want : ∀ p ∈ ps, BSl w p.want p.xs
  wblk : ∀ p ∈ ps, ∀ k, p.want.ownBlock = some k → base ≤ k ∧ ∃ cur fr, w.heap[k]? = some (.cells cur 5 fr)
  byte : ∀ p ∈ ps, (∀ x ∈ p.xs, x < 256) ∧ p.xs.length < 68719476736
  two : ∀ (i j : Nat) (pi pj : Wait), ps[i]? = some pi → ps[j]? = some pj → i ≠ j → ∀ k, pi.got.ownBlock = some k → pj.got.ownBlock ≠ some k
  hbase : base ≤ L

def LFoot (L : Nat) (vg vw : Value) (ps : List Wait) (k : Nat) : Prop := k = L ∨ vg.ownBlock = some k ∨ vw.ownBlock = some k ∨ (∃ p ∈ ps, p.got.ownBlock = some k) ∨ ∃ p ∈ ps, p.want.ownBlock = some k

theorem lfoot_lt {w : World} {base L : Nat} {vg vw : Value} {ps : List Wait} (h : LateOk w base L vg vw ps) : ∀ k, LFoot L vg vw ps k → base ≤ k ∧ k < w.heap.size := by
  intro k hk
  rcases hk with rfl | hk | hk | ⟨p, hp, hk⟩ | ⟨p, hp, hk⟩
  · exact ⟨h.hbase, blk_lt h.blk⟩
  · exact own_back h.hg k hk
  · exact own_back h.hw k hk
  · exact own_back (h.got p hp) k hk
  · obtain ⟨h1, cur, fr, h2⟩ := h.wblk p hp k hk
    exact ⟨h1, blk_lt h2⟩

theorem LateOk.kp {S : Nat → Prop} {w w' : World} {base L : Nat} {vg vw : Value} {ps : List Wait} (h : LateOk w base L vg vw ps) (hk : Kp S w w') (hs : ∀ k, LFoot L vg vw ps k → ¬ S k) : LateOk w' base L vg vw ps :=
  ⟨(hk.block L (blk_lt h.blk) (hs L (.inl rfl))).trans h.blk, hk.owns h.hg (fun k hq => hs k (.inr (.inl hq))), hk.owns h.hw (fun k hq => hs k (.inr (.inr (.inl hq)))), h.apart,
    fun p hp => hk.owns (h.got p hp) (fun k hq => hs k (.inr (.inr (.inr (.inl ⟨p, hp, hq⟩))))), fun p hp => hk.bsl (h.want p hp) (fun k hq => hs k (.inr (.inr (.inr (.inr ⟨p, hp, hq⟩))))),
    fun p hp k hq => by
      obtain ⟨h1, cur, fr, h2⟩ := h.wblk p hp k hq
      exact ⟨h1, cur, fr, (hk.block k (blk_lt h2) (hs k (.inr (.inr (.inr (.inr ⟨p, hp, hq⟩)))))).trans h2⟩,
    h.byte, h.two, h.hbase⟩

def LateAt (w : World) (base L : Nat) (G : Nat → Prop) (c : Nat) : Prop := ∃ vg vw ps, LateOk w base L vg vw ps ∧ (∀ k, LFoot L vg vw ps k → G k) ∧ ps.length ≤ c

theorem LateAt.kp {S : Nat → Prop} {w w' : World} {base L : Nat} {G : Nat → Prop} {c : Nat} (h : LateAt w base L G c) (hk : Kp S w w') (hs : ∀ k, G k → ¬ S k) : LateAt w' base L G c := by
  obtain ⟨vg, vw, ps, hok, hf, hc⟩ := h
  exact ⟨vg, vw, ps, hok.kp hk (fun k hq => hs k (hf k hq)), hf, hc⟩

/-- Book and Late side by side; none of their blocks is in X. -/
def Hs (w : World) (base : Nat) (X : Nat → Prop) (B L t c : Nat) : Prop := ∃ F G, BookAt w base B F t ∧ LateAt w base L G c ∧ (∀ k, G k → ¬ F k) ∧ ∀ k, F k ∨ G k → base ≤ k ∧ k < w.heap.size ∧ ¬ X k

theorem Hs.kp {S : Nat → Prop} {w w' : World} {base : Nat} {X : Nat → Prop} {B L t c : Nat} (h : Hs w base X B L t c) (hk : Kp S w w') (hs : ∀ k, base ≤ k → k < w.heap.size → ¬ X k → ¬ S k) : Hs w' base X B L t c := by
  obtain ⟨F, G, hb, hl, hd, hx⟩ := h
  refine ⟨F, G, hb.kp hk (fun k hf => ?_), hl.kp hk (fun k hg => ?_), hd, fun k hk' => ⟨(hx k hk').1, Nat.lt_of_lt_of_le (hx k hk').2.1 hk.size, (hx k hk').2.2⟩⟩
  · have := hx k (.inl hf); exact hs k this.1 this.2.1 this.2.2
  · have := hx k (.inr hg); exact hs k this.1 this.2.1 this.2.2
theorem Hs.mono {w : World} {base : Nat} {X Y : Nat → Prop} {B L t c : Nat} (h : Hs w base X B L t c) (hy : ∀ k, base ≤ k → k < w.heap.size → Y k → X k) : Hs w base Y B L t c := by
  obtain ⟨F, G, hb, hl, hd, hx⟩ := h
  exact ⟨F, G, hb, hl, hd, fun k hk => ⟨(hx k hk).1, (hx k hk).2.1, fun h => (hx k hk).2.2 (hy k (hx k hk).1 (hx k hk).2.1 h)⟩⟩

set_option maxRecDepth 1000000 in
set_option maxHeartbeats 400000 in
theorem same_any {w : World} {base L : Nat} {vg vw : Value} {ps : List Wait} (h : LateOk w base L vg vw ps) :
    Calls Try.prog 27 #[.pointer (some ⟨L, 0, none⟩)] w fun e w' => e = .returned (.bool true) ∧ Kp (fun _ => False) w w' := by
  obtain ⟨ag, cg, hvg, hq1, hq2, hcg⟩ := own_form h.hg
  obtain ⟨aw, cw, hvw, hq3, hq4, hcw⟩ := own_form h.hw
  have HCG := hide hcg
  have HCW := hide hcw
  have HH := hide h
  subst hvg
  subst hvw
  clear hcg hcw h hq3 hq4
  go_enter Try.func27, Try.ntmps27
  go_wp2
  go_loopw [3] (fun i wr => ∃ k : Nat, k ≤ ps.length ∧ i = .int .i64 k ∧ Kp (fun _ => False) w wr) (fun i _ => ps.length - (intOf i).toNat)
  case atStart => exact ⟨0, Nat.zero_le _, rfl, Kp.refl _ _⟩
  case round =>
    obtain ⟨k, hk, rfl, hkp⟩ := hrel
    have HK := hide hkp
    clear hkp
    have HL := hide (HH.out.kp HK.out (fun _ _ h => h))
    have c0 : wr.cell? ⟨L, 0, none⟩ = some (.slice ag ps.length cg) := blk_cell HL.out.blk rfl
    have c1 : wr.cell? ⟨L, 1, none⟩ = some (.slice aw ps.length cw) := blk_cell HL.out.blk rfl
    by_cases hlt : k < ps.length
    · have hlt' : (k : Int) < (ps.length : Int) := by omega
      obtain ⟨p, hp⟩ : ∃ p, ps[k]? = some p := ⟨ps[k], by simp [hlt]⟩
      have hmem := List.mem_of_getElem? hp
      obtain ⟨gb, hab, hcb1⟩ := HCG.out k p.got (by simp [hp])
      obtain ⟨gw, haw, hcw1⟩ := HCW.out k p.want (by simp [hp])
      subst hab
      subst haw
      have cg1 := HK.out.cell hcb1 (by simp)
      have cw1 := HK.out.cell hcw1 (by simp)
      have hb1 := BSl.own (HL.out.got p hmem) (HL.out.byte p hmem).1
      have hb2 := HL.out.want p hmem
      have hcv1 : ∀ nq, Sem.run Try.prog (convert 53 9 p.got) (wr.drewN nq) = .ok (.string (nstr p.xs)) (wr.drewN nq) := fun nq => (hb1.move (w' := wr.drewN nq) (fun _ _ h => h)).text
      have hcv2 : ∀ nq, Sem.run Try.prog (convert 53 9 p.want) (wr.drewN nq) = .ok (.string (nstr p.xs)) (wr.drewN nq) := fun nq => (hb2.move (w' := wr.drewN nq) (fun _ _ h => h)).text
      generalize nstr p.xs = S at *
      generalize p.got = pg at *
      generalize p.want = pw at *
      clear hb1 hb2 hmem hp hcb1 hcw1
      go_wp2
      go_quiet (fail)
      go_wp2
      go_roundw
      case rel => exact ⟨k + 1, by omega, by go_num, HK.out.drewN _⟩
      case measure => simp [intOf]; omega
    · have hlt' : ¬ (k : Int) < (ps.length : Int) := by omega
      go_wp2
      go_ret
      exact ⟨rfl, HK.out⟩
end Go.Proofs.Ytfjdpooaipehmaa
