import Derived.Test.YtbbalhfjgpaabaaGreatDoorJf
import Derived.Test.YtbbalhfjgpaabaaGreatDoorJg
import Derived.Test.YtbbalhfjgpaabaaGreatDoorJb
import Derived.Deep.CutBlock
import Derived.Lib.ValidLaws
import Derived.Test.YtbbalhfjgpaabaaGreatDoorJe
import Derived.Test.YtbbalhfjgpaabaaGreatDoorJc
import Derived.Test.YtbbalhfjgpaabaaGreatDoorSlcf
import Derived.Lib.TrimUEq
import Derived.Laws.EntriesVeiled
namespace Go.Proofs.YtbbalhfjgpaabaaGreatDoor
section
open Go.RowKit Go
theorem Pt4.trans {w w1 w2 : World} {base B : Nat} {f f1 : Fin 4 → Fs} {t d n m : Nat} {L L' U : Nat → Prop} (hk1 : Kp (fun q => Ft4 B f q ∨ L q) w w1) (hf1 : ∀ q, Ft4 B f1 q → Ft4 B f q ∨ L q ∨ w.heap.size ≤ q) (h2 : Pt4 w1 base B f1 (t + n) d L' m w2) (hL : ∀ q, L q → U q) (hL' : ∀ q, L' q → U q) : Pt4 w base B f t d U (n + m) w2 := by
  obtain ⟨C2, f2, u2, hok, hk2, hf2⟩ := h2
  refine ⟨C2, f2, u2, by rw [← Nat.add_assoc]; exact hok, (hk1.mono (fun q _ e => e.imp id (hL q))).trans hk2 (fun q hq e => ?_), fun q e => ?_⟩
  · rcases e with e | e
    · rcases hf1 q e with h | h | h
      · exact .inl h
      · exact .inr (hL q h)
      · omega
    · exact .inr (hL' q e)
  · rcases hf2 q e with h | h | h
    · rcases hf1 q h with h | h | h
      · exact .inl h
      · exact .inr (.inl (hL q h))
      · exact .inr (.inr h)
    · exact .inr (.inl (hL' q h))
    · exact .inr (.inr (Nat.le_trans hk1.size h))
theorem Pt4.none {w : World} {base B : Nat} {C : Array Value} {f : Fin 4 → Fs} {t d u : Nat} (h : Bkq w base B C f t d u) (L : Nat → Prop) : Pt4 w base B f t d L 0 w := ⟨C, f, u, h, Kp.refl _ _, fun _ e => .inl e⟩
theorem two11 {w w1 w2 : World} {B : Nat} {f f1 f2 : Fin 4 → Fs} {L L' U : Nat → Prop} (hk1 : Kp (fun q => Ft4 B f q ∨ L q) w w1) (hf1 : ∀ q, Ft4 B f1 q → Ft4 B f q ∨ L q ∨ w.heap.size ≤ q) (hk2 : Kp (fun q => Ft4 B f1 q ∨ L' q) w1 w2) (hf2 : ∀ q, Ft4 B f2 q → Ft4 B f1 q ∨ L' q ∨ w1.heap.size ≤ q) (hL : ∀ q, L q → U q) (hL' : ∀ q, L' q → U q) : Kp (fun q => Ft4 B f q ∨ U q) w w2 ∧ ∀ q, Ft4 B f2 q → Ft4 B f q ∨ U q ∨ w.heap.size ≤ q := by
  refine ⟨(hk1.mono (fun q _ e => e.imp id (hL q))).trans hk2 (fun q hq e => ?_), fun q e => ?_⟩
  · rcases e with e | e
    · rcases hf1 q e with h | h | h
      · exact .inl h
      · exact .inr (hL q h)
      · omega
    · exact .inr (hL' q e)
  · rcases hf2 q e with h | h | h
    · rcases hf1 q h with h | h | h
      · exact .inl h
      · exact .inr (.inl (hL q h))
      · exact .inr (.inr h)
    · exact .inr (.inl (hL' q h))
    · exact .inr (.inr (Nat.le_trans hk1.size h))
structure Tyr (w : World) (base : Nat) (D : Nat → Prop) (vi : Value) (cs : List (Array Value)) (E : Nat → Nat → Prop) : Prop where
  hv : w.ownsRow base 69 9 vi cs.length (gfl cs)
  h9 : ∀ c ∈ cs, c.size = 9
  hD : ∀ q, vi.ownBlock = some q → D q
  hE : ∀ i, i < cs.length → ∀ q, E i q → D q ∧ vi.ownBlock ≠ some q
  hdj : ∀ i j, i < j → j < cs.length → ∀ q, E i q → ¬ E j q
  hcs : ∀ (i : Nat) (c : Array Value), cs[i]? = some c → Tyo w base (E i) c
theorem Bkq.hd {w : World} {base B : Nat} {C : Array Value} {f : Fin 4 → Fs} {t d u : Nat} (_ : Bkq w base B C f t d u) (i : Fin 4) {l : Value} (h : ∀ q, l.ownBlock = some q → ¬ Ft4 B f q) : ∀ e ∈ (f i).es, ∀ k, e.val.ownBlock = some k → l.ownBlock ≠ some k := fun e he q h1 h2 => h q h2 (.inr ⟨i, .inr (.inr ⟨e, he, h1⟩)⟩)
theorem own_typ {w : World} {B g n m cap k : Nat} {L : List (Array Value)} {c : Array Value} (h : w.ownsRow B 69 9 (.slice (some ⟨g, 0, none⟩) m cap) n (gfl L)) (hs : ∀ d ∈ L, d.size = 9) (hc : L[k]? = some c) : ∀ j x, c[j]? = some x → w.cell? ⟨g, k * 9 + j, none⟩ = some x := fun j x hx => by
  have := h.cells (g := g) rfl (k * 9 + j) x (gfl_get hs k c j x hc hx)
  have hadd : (⟨g, 0, none⟩ : Addr).add (k * 9 + j) = ⟨g, k * 9 + j, none⟩ := by unfold Addr.add; split <;> simp_all
  rw [hadd] at this
  exact this
set_option maxRecDepth 1000000 in
set_option maxHeartbeats 2000000 in
theorem typesM_any (w0 : World) (base B : Nat) (C0 : Array Value) (f0 : Fin 4 → Fs) (t0 d u0 : Nat) (D : Nat → Prop) (vi : Value) (cs : List (Array Value)) (E : Nat → Nat → Prop) (hok0 : Bkq w0 base B C0 f0 t0 d u0) (hi0 : Tyr w0 base D vi cs E) (hD0 : ∀ q, D q → q < w0.heap.size ∧ ¬ Ft4 B f0 q) (hm0 : cs.length ≤ 10000000) (ht0 : t0 + 3 * cs.length + 1 < 68719476736) :
    Calls Tryz.prog 35 #[.pointer (some ⟨B, 0, none⟩), vi] w0 fun e w' => e = .returned (.tuple #[]) ∧ Hid (∃ n, n ≤ 3 * cs.length + 1 ∧ Pt4 w0 base B f0 t0 d D n w') := by
  have HOK0 := hide hok0
  have HI0 := hide hi0
  have HD0 := hide hD0
  have HT0 := hide ht0
  have hlen : cs.length ≤ 10000000 := hm0
  obtain ⟨ai, ci, hvi⟩ := own_slice hi0.hv
  clear hok0 hi0 hD0 hm0 ht0
  rw [hvi]
  have HVI := hide hvi
  clear hvi
  go_enter Tryz.func35, Tryz.ntmps35
  go_wp2_with fail
  go_loopw [4] (fun i wr => ∃ k : Nat, k ≤ cs.length ∧ i = .int .i64 k ∧ Hid (Pt4 w0 base B f0 t0 d (fun q => ∃ i, i < k ∧ E i q) (3 * k) wr)) (fun i _ => cs.length - (intOf i).toNat)
  case atStart => exact ⟨0, Nat.zero_le _, rfl, Pt4.none HOK0.out _⟩
  case round =>
    rename World => wr
    obtain ⟨k, hk, rfl, HP⟩ := hrel
    have hEi : ∀ q, (Value.slice ai cs.length ci).ownBlock = some q → ¬ (Ft4 B f0 q ∨ ∃ i, i < k ∧ E i q) := fun q hq e => by
      rw [← HVI.out] at hq
      rcases e with e | ⟨i, hi, e⟩
      · exact (HD0.out q (HI0.out.hD q hq)).2 e
      · exact (HI0.out.hE i (by omega) q e).2 hq
    by_cases hlt : k < cs.length
    · have hlt' : (k : Int) < (cs.length : Int) := by omega
      obtain ⟨C1, f1, u1, hok1, hk1, hf1⟩ := HP.out
      obtain ⟨c, hc⟩ : ∃ c, cs[k]? = some c := ⟨cs[k], List.getElem?_eq_getElem hlt⟩
      have hrow : wr.ownsRow base 69 9 (.slice ai cs.length ci) cs.length (gfl cs) := by
        have h := HI0.out.hv
        rw [HVI.out] at h
        exact hk1.owns h hEi
      obtain ⟨g, hg⟩ : ∃ g, ai = some ⟨g, 0, none⟩ := by
        rcases hrow.2 with ⟨_, h0⟩ | ⟨g, _, _, hv, _⟩
        · omega
        · injection hv with hv; exact ⟨g, hv⟩
      subst hg
      obtain ⟨t, vf, vc, vw, nf, nc, nw, xf, xc, xw, ec, of, oc, ow, lf, lc, lw, df, dc, dw⟩ := (HI0.out.hcs k c hc).e
      have hno : ∀ q, E k q → ¬ (Ft4 B f0 q ∨ ∃ i, i < k ∧ E i q) := fun q e es => by
        have hq := HI0.out.hE k hlt q e
        rcases es with es | ⟨i, hi, es⟩
        · exact (HD0.out q hq.1).2 es
        · exact HI0.out.hdj i k hi hlt q es e
      have hnf : ∀ q, E k q → ¬ Ft4 B f1 q := fun q e es => by
        have hq := HI0.out.hE k hlt q e
        have hd := HD0.out q hq.1
        rcases hf1 q es with h | ⟨i, hi, h⟩ | h
        · exact hd.2 h
        · exact HI0.out.hdj i k hi hlt q h e
        · omega
      have hnl : ∀ q, (Value.slice (some ⟨g, 0, none⟩) cs.length ci).ownBlock = some q → ¬ Ft4 B f1 q ∧ ¬ E k q := fun q hq => by
        have hq2 := hq
        rw [← HVI.out] at hq2
        have hd := HD0.out q (HI0.out.hD q hq2)
        refine ⟨fun es => ?_, fun e => (HI0.out.hE k hlt q e).2 hq2⟩
        rcases hf1 q es with h | ⟨i, hi, h⟩ | h
        · exact hd.2 h
        · exact (HI0.out.hE i (by omega) q h).2 hq2
        · omega
      have of1 := hk1.owns of (fun q e => hno q (df q e))
      have oc1 := hk1.owns oc (fun q e => hno q (dc q e))
      have ow1 := hk1.owns ow (fun q e => hno q (dw q e))
      have hcell := own_typ hrow HI0.out.h9 hc
      rw [ec] at hcell
      have h1t : t0 + 3 * k + 1 < 68719476736 := by have := HT0.out; omega
      have h2t : t0 + 3 * k + 1 + 1 < 68719476736 := by have := HT0.out; omega
      have h3t : t0 + 3 * k + 1 + 1 + 1 < 68719476736 := by have := HT0.out; omega
      have H1T := hide h1t
      have H2T := hide h2t
      have H3T := hide h3t
      have HOK1 := hide hok1
      have HNF1 : Hid (∀ q, (vf.ownBlock = some q ∨ vc.ownBlock = some q ∨ vw.ownBlock = some q) → ¬ Ft4 B f1 q ∧ q < wr.heap.size) := fun q e => by
        rcases e with e | e | e
        · exact ⟨hnf q (df q e), (of1.lt q e).2⟩
        · exact ⟨hnf q (dc q e), (oc1.lt q e).2⟩
        · exact ⟨hnf q (dw q e), (ow1.lt q e).2⟩
      have HNL1 : Hid (∀ q, (Value.slice (some ⟨g, 0, none⟩) cs.length ci).ownBlock = some q → ¬ Ft4 B f1 q ∧ q < wr.heap.size) := fun q e => ⟨(hnl q e).1, (hrow.lt q e).2⟩
      have HNE : Hid (∀ q, (Value.slice (some ⟨g, 0, none⟩) cs.length ci).ownBlock = some q → ¬ E k q) := fun q e => (hnl q e).2
      have HU1 : Hid (Kp (fun q => Ft4 B f0 q ∨ ∃ i, i < k + 1 ∧ E i q) w0 wr ∧ ∀ q, Ft4 B f1 q → Ft4 B f0 q ∨ (∃ i, i < k + 1 ∧ E i q) ∨ w0.heap.size ≤ q) := ⟨hk1.mono (fun q _ e => e.imp id (fun ⟨i, hi, e⟩ => ⟨i, by omega, e⟩)), fun q e => (hf1 q e).imp id (fun e => e.imp (fun ⟨i, hi, e⟩ => ⟨i, by omega, e⟩) id)⟩
      have HRW1 := hide hrow
      have HOF1 := hide of1
      have HOC1 := hide oc1
      have HOW1 := hide ow1
      have HDD : Hid ((∀ q, vf.ownBlock = some q → E k q) ∧ (∀ q, vc.ownBlock = some q → E k q) ∧ (∀ q, vw.ownBlock = some q → E k q)) := ⟨df, dc, dw⟩
      have HLL : Hid (nf < 68719476736 ∧ nc < 68719476736 ∧ nw < 68719476736) := ⟨lf, lc, lw⟩
      have HCL : Hid (∀ wy : World, wy.ownsRow base 69 9 (.slice (some ⟨g, 0, none⟩) cs.length ci) cs.length (gfl cs) → ∀ j x, (tpc t vf vc vw)[j]? = some x → wy.cell? ⟨g, k * 9 + j, none⟩ = some x) := fun wy hy => by
        have h := own_typ hy HI0.out.h9 hc
        rw [ec] at h
        exact h
      have HAP : Hid ((∀ q, vc.ownBlock = some q → vf.ownBlock ≠ some q) ∧ (∀ q, vw.ownBlock = some q → vf.ownBlock ≠ some q) ∧ (∀ q, vw.ownBlock = some q → vc.ownBlock ≠ some q)) := ⟨fun q h1 h2 => own_apart oc1 of1 (by decide) h1 h2, fun q h1 h2 => own_apart ow1 of1 (by decide) h1 h2, fun q h1 h2 => own_apart ow1 oc1 (by decide) h1 h2⟩
      clear hok1 hk1 hf1 hnf hnl hrow of oc ow of1 oc1 ow1 df dc dw lf lc lw ec hc hcell hno HP hEi h1t h2t h3t
      have q1 : wr.cell? ⟨g, k * 9 + 6, none⟩ = some vf := HCL.out wr HRW1.out 6 vf rfl
      have HCA := hide (fieldsM_any HOK1.out.blk HOK1.out.n (HOK1.out.r 2).1 (HOK1.out.r 2).2.1 HOK1.out.c54 HOK1.out.c56 (HOK1.out.k 2) vf nf xf HOF1.out HLL.out.1 (HOK1.out.hd 2 (fun q e => (HNF1.out q (.inl e)).1)) H1T.out HOK1.out.hu HOK1.out.sz)
      obtain ⟨avf, kvf, evf⟩ := own_slice HOF1.out
      rw [evf] at q1 HCA
      go_wp2_with fail
      clear q1
      refine HCA.out.mono ?_
      rintro e w2 ⟨rfl, hp⟩
      rw [← evf] at hp
      obtain ⟨C2, f2, u2, hok, hk, hf⟩ := HOK1.out.put 2 hp.out (fun q e => (HNF1.out q (.inl e)).1) H1T.out
      have HOK2 := hide hok
      have HU2 := hide (two11 HU1.out.1 HU1.out.2 hk hf (fun _ e => e) (fun q e => ⟨k, by omega, HDD.out.1 q e⟩))
      have HNF2 : Hid (∀ q, (vc.ownBlock = some q ∨ vw.ownBlock = some q) → ¬ Ft4 B f2 q ∧ q < w2.heap.size) := fun q e => by
        have h1 := HNF1.out q (.inr e)
        refine ⟨fun es => ?_, Nat.lt_of_lt_of_le h1.2 hk.size⟩
        rcases hf q es with h | h | h
        · exact h1.1 h
        · exact e.elim (fun e => HAP.out.1 q e h) (fun e => HAP.out.2.1 q e h)
        · omega
      have HNL2 : Hid (∀ q, (Value.slice (some ⟨g, 0, none⟩) cs.length ci).ownBlock = some q → ¬ Ft4 B f2 q ∧ q < w2.heap.size) := fun q e => by
        have h1 := HNL1.out q e
        refine ⟨fun es => ?_, Nat.lt_of_lt_of_le h1.2 hk.size⟩
        rcases hf q es with h | h | h
        · exact h1.1 h
        · exact HNE.out q e (HDD.out.1 q h)
        · omega
      have HRW2 := hide (hk.owns HRW1.out (fun q e es => es.elim (HNL1.out q e).1 (fun es => HNE.out q e (HDD.out.1 q es))))
      have HOC2 := hide (hk.owns HOC1.out (fun q e es => es.elim (HNF1.out q (.inr (.inl e))).1 (fun es => HAP.out.1 q e es)))
      have HOW2 := hide (hk.owns HOW1.out (fun q e es => es.elim (HNF1.out q (.inr (.inr e))).1 (fun es => HAP.out.2.1 q e es)))
      clear hp hok hk hf HCA evf
      have q2 : w2.cell? ⟨g, k * 9 + 7, none⟩ = some vc := HCL.out w2 HRW2.out 7 vc rfl
      have HCA := hide (casesM_any HOK2.out.blk HOK2.out.n (HOK2.out.r 1).1 (HOK2.out.r 1).2.1 HOK2.out.c54 HOK2.out.c56 (HOK2.out.k 1) vc nc xc HOC2.out HLL.out.2.1 (HOK2.out.hd 1 (fun q e => (HNF2.out q (.inl e)).1)) H2T.out HOK2.out.hu HOK2.out.sz)
      obtain ⟨avc, kvc, evc⟩ := own_slice HOC2.out
      rw [evc] at q2 HCA
      go_wp2_with fail
      clear q2
      refine HCA.out.mono ?_
      rintro e w3 ⟨rfl, hp⟩
      rw [← evc] at hp
      obtain ⟨C3, f3, u3, hok, hk, hf⟩ := HOK2.out.put 1 hp.out (fun q e => (HNF2.out q (.inl e)).1) H2T.out
      have HOK3 := hide hok
      have HU3 := hide (two11 HU2.out.1 HU2.out.2 hk hf (fun _ e => e) (fun q e => ⟨k, by omega, HDD.out.2.1 q e⟩))
      have HNF3 : Hid (∀ q, (vw.ownBlock = some q) → ¬ Ft4 B f3 q ∧ q < w3.heap.size) := fun q e => by
        have h1 := HNF2.out q (.inr e)
        refine ⟨fun es => ?_, Nat.lt_of_lt_of_le h1.2 hk.size⟩
        rcases hf q es with h | h | h
        · exact h1.1 h
        · exact HAP.out.2.2 q e h
        · omega
      have HNL3 : Hid (∀ q, (Value.slice (some ⟨g, 0, none⟩) cs.length ci).ownBlock = some q → ¬ Ft4 B f3 q ∧ q < w3.heap.size) := fun q e => by
        have h1 := HNL2.out q e
        refine ⟨fun es => ?_, Nat.lt_of_lt_of_le h1.2 hk.size⟩
        rcases hf q es with h | h | h
        · exact h1.1 h
        · exact HNE.out q e (HDD.out.2.1 q h)
        · omega
      have HRW3 := hide (hk.owns HRW2.out (fun q e es => es.elim (HNL2.out q e).1 (fun es => HNE.out q e (HDD.out.2.1 q es))))
      have HOW3 := hide (hk.owns HOW2.out (fun q e es => es.elim (HNF2.out q (.inr e)).1 (fun es => HAP.out.2.2 q e es)))
      clear hp hok hk hf HCA evc
      have q3 : w3.cell? ⟨g, k * 9 + 8, none⟩ = some vw := HCL.out w3 HRW3.out 8 vw rfl
      have HCA := hide (textsM_any HOK3.out.blk HOK3.out.n (HOK3.out.r 0).1 (HOK3.out.r 0).2.1 HOK3.out.c54 HOK3.out.c56 (HOK3.out.k 0) vw nw xw HOW3.out HLL.out.2.2 (HOK3.out.hd 0 (fun q e => (HNF3.out q e).1)) H3T.out HOK3.out.hu HOK3.out.sz)
      obtain ⟨avw, kvw, evw⟩ := own_slice HOW3.out
      rw [evw] at q3 HCA
      go_wp2_with fail
      clear q3
      refine HCA.out.mono ?_
      rintro e w4 ⟨rfl, hp⟩
      rw [← evw] at hp
      obtain ⟨C4, f4, u4, hok, hk, hf⟩ := HOK3.out.put 0 hp.out (fun q e => (HNF3.out q e).1) H3T.out
      have HOK4 := hide hok
      have HU4 := hide (two11 HU3.out.1 HU3.out.2 hk hf (fun _ e => e) (fun q e => ⟨k, by omega, HDD.out.2.2 q e⟩))
      clear hp hok hk hf HCA evw
      have HP4 : Hid (Pt4 w0 base B f0 t0 d (fun q => ∃ i, i < k + 1 ∧ E i q) (3 * (k + 1)) w4) := ⟨C4, f4, u4, by rw [show t0 + 3 * (k + 1) = t0 + 3 * k + 1 + 1 + 1 by omega]; exact HOK4.out, HU4.out.1, HU4.out.2⟩
      go_wp2_with fail
      go_roundw
      case rel => (repeat (first | exact ⟨⟨k + 1, by omega, by go_num, HP4⟩, rfl⟩ | exact ⟨k + 1, by omega, by go_num, HP4⟩ | apply Exists.intro))
      case measure => simp [intOf]; omega
    · have hlt' : ¬ (k : Int) < (cs.length : Int) := by omega
      obtain ⟨C, f, u, hok1, hk1, hf1⟩ := HP.out
      obtain ⟨w, hw⟩ : ∃ x, x = wr := ⟨_, rfl⟩
      subst hw
      obtain ⟨t, htq⟩ : ∃ x, x = t0 + 3 * k := ⟨_, rfl⟩
      obtain ⟨n, hnq⟩ : ∃ x, x = cs.length := ⟨_, rfl⟩
      obtain ⟨l, hlq⟩ : ∃ x, x = Value.slice ai cs.length ci := ⟨_, rfl⟩
      obtain ⟨xs, hxq⟩ : ∃ x, x = gfl cs := ⟨_, rfl⟩
      have hl : w.ownsRow base 69 9 l n xs := by
        have h := HI0.out.hv
        rw [HVI.out] at h
        rw [hlq, hnq, hxq]
        exact hk1.owns h hEi
      have hn : n < 68719476736 := by omega
      have hDl : ∀ q, l.ownBlock = some q → ¬ Ft4 B f q := fun q hq es => by
        have hq2 := hq
        rw [hlq, ← HVI.out] at hq2
        have hDq := HI0.out.hD q hq2
        have hd := HD0.out q hDq
        rcases hf1 q es with h | ⟨i, hi, h⟩ | h
        · exact hd.2 h
        · exact (HI0.out.hE i (by omega) q h).2 hq2
        · omega
      have ht : t + 1 < 68719476736 := by have h2 := HT0.out; omega
      have HEND : Hid (∀ w2, BkP KY 45 w base B C (f 3).vb (f 3).vo (f 3).es (f 3).a t u l w2 → Hid (∃ n, n ≤ 3 * cs.length + 1 ∧ Pt4 w0 base B f0 t0 d D n w2)) := fun w2 hp => by
        have h1 := hok1
        rw [← htq] at h1
        have h2 := h1.put 3 hp hDl ht
        rw [htq] at h2
        refine ⟨3 * k + 1, by omega, Pt4.trans hk1 hf1 h2 (fun q ⟨i, hi, e⟩ => (HI0.out.hE i (by omega) q e).1) (fun q e => ?_)⟩
        rw [hlq, ← HVI.out] at e
        exact HI0.out.hD q e
      have hok := hok1
      rw [← htq] at hok
      have hB := hok.blk
      have h57 := hok.n
      have h54 := hok.c54
      have h56 := hok.c56
      have hu := hok.hu
      have hbase := hok.sz
      have hJ0 : C[45]? = some (f 3).vb := (hok.r 3).1
      have hJ1 : C[46]? = some (f 3).vo := (hok.r 3).2.1
      have hK : Ko KY w base (f 3).vb (f 3).vo (f 3).es (f 3).a t u := hok.k 3
      have hd : ∀ e ∈ (f 3).es, ∀ k, e.val.ownBlock = some k → l.ownBlock ≠ some k := fun e he q h1 h2 => hDl q h2 (.inr ⟨3, .inr (.inr ⟨e, he, h1⟩)⟩)
      have hlt2 : ¬ (k : Int) < (n : Int) := by rw [hnq]; exact hlt'
      have hnl : cs.length = n := hnq.symm
      rw [hnl]
      have hlv : Value.slice ai n ci = l := by rw [hlq, hnq]
      rw [hlv]
      clear hok hok1 hk1 hf1 HP hEi hxq hDl htq HI0 HD0 HVI HOK0 hlv hnl hlq hnq hlt hlt' hk HT0 hlen
      generalize (f 3).vb = vb at *
      generalize (f 3).vo = vo at *
      generalize (f 3).es = es at *
      generalize (f 3).a = a at *
      have c54 : w.cell? ⟨B, 54, none⟩ = some (.int .i64 (t : Nat)) := blk_cell hB h54
      have f54 := blk_frozen 54 hB
      have htt : (t : Int) + 1 < 68719476736 := by omega
      obtain ⟨al, capl, hlf⟩ := own_slice hl
      have HLB : Hid (l.ownBlock ≠ some B) := own_not hl hB (by decide)
      have e1 : ((t : Int) + 1) = ((t + 1 : Nat) : Int) := by omega
      have HB1 : Hid ((w.setCell ⟨B, 54, none⟩ (.int .i64 ((t : Int) + 1))).heap[B]? = some (.cells (C.setIfInBounds 54 (.int .i64 ((t + 1 : Nat) : Int))) 47 (0, 0))) := by show _ = _; rw [e1]; exact blk_set 54 _ hB
      have c54' : (w.setCell ⟨B, 54, none⟩ (.int .i64 ((t : Int) + 1))).cell? ⟨B, 54, none⟩ = some (.int .i64 ((t : Int) + 1)) := blk_cell HB1.out (by rw [get_set (by omega), e1])
      have HBB := hide hB
      have H57 := hide h57
      have HJ0 := hide hJ0
      have HJ1 := hide hJ1
      have HC56 := hide h56
      have HK := hide hK
      have HN := hide hn
      have HT := hide ht
      have HU := hide hu
      have HBASE := hide hbase
      have HK1 : Hid (Kp (fun k => k = B ∨ l.ownBlock = some k) w (w.setCell ⟨B, 54, none⟩ (.int .i64 ((t : Int) + 1)))) := (Kp.refl _ w).setCell _ _ (fun _ => .inl rfl)
      have HO1 : Hid ((w.setCell ⟨B, 54, none⟩ (.int .i64 ((t : Int) + 1))).ownsRow base 69 9 l n xs) := ((Kp.refl (fun k => k = B) w).setCell ⟨B, 54, none⟩ (.int .i64 ((t : Int) + 1)) (fun _ => rfl)).owns hl (fun k hk e => HLB.out (by rw [hk, e]))
      have HL := hide hl
      have HD := hide hd
      subst hlf
      have hnn : (n : Int) < 68719476736 := by omega
      clear hB h57 hJ0 hJ1 h54 h56 hK hl hn hd ht hu hbase e1
      obtain ⟨iL, hiL, hzL0, hzL1, hzL2⟩ := infoTsS_ex
      have HAL : Hid ((yma (t + 1)).all (·.oneCell') = true) := by
        show _ = _
        rw [Array.all_eq_true']
        intro x hx
        exact yma_one (t + 1) x (by simpa using hx)
      go_wp2_with fail
      clear c54 f54 c54'
      generalize w.setCell ⟨B, 54, none⟩ (.int .i64 ((t : Int) + 1)) = w1 at *
      refine (typesMark_any ((t : Int) + 1) w1 (by omega) (by omega)).mono ?_
      rintro e w2 ⟨rfl, hb2⟩
      have e2 : ((t : Int) + 1).toNat = t + 1 := by omega
      rw [e2]
      have hb3 : Below w1.heap.size w1 (w2.alloc (.cells (yma (t + 1)) 69)) := hb2.trans ((below_alloc4 w2 _).mono hb2.size)
      have HBR0 : Hid ((w2.alloc (.cells (yma (t + 1)) 69)).heap[B]? = some (.cells (C.setIfInBounds 54 (.int .i64 ((t + 1 : Nat) : Int))) 47 (0, 0))) := (hb3.block B (blk_lt HB1.out)).trans HB1.out
      have HROW0 : Hid ((w2.alloc (.cells (yma (t + 1)) 69)).ownsRow base 69 9 (.slice al n capl) n xs) := (Kp.of_below (S := fun _ => False) hb3).owns HO1.out (fun _ _ e => e)
      have HKP0 : Hid (Kp (fun k => k = B ∨ (Value.slice al n capl).ownBlock = some k) w (w2.alloc (.cells (yma (t + 1)) 69))) := HK1.out.trans (Kp.of_below (S := fun _ => False) hb3) (fun _ _ e => e.elim)
      have HX0 : Hid ((w2.alloc (.cells (yma (t + 1)) 69)).heap[w2.heap.size]? = some (.cells (yma (t + 1)) 69 (0, 0))) := heap_alloc_new w2 _
      have HGZ : Hid ((w2.alloc (.cells #[.string ⟨#[]⟩, .int .i64 0, .int .i64 0, .int .i64 0, .string ⟨#[]⟩, .bool false, .slice none 0 0, .slice none 0 0, .slice none 0 0] 69)).heap[w2.heap.size]? = some (.cells #[.string ⟨#[]⟩, .int .i64 0, .int .i64 0, .int .i64 0, .string ⟨#[]⟩, .bool false, .slice none 0 0, .slice none 0 0, .slice none 0 0] 69 (0, 0))) := heap_alloc_new w2 _
      have HGX : Hid (w.heap.size ≤ w2.heap.size) := Nat.le_trans HK1.out.size hb2.size
      clear hb2 hb3 HB1 HO1 HK1 e2
      go_wp2_with (refine wpList_storeRow rfl rfl w2.heap.size #[.string ⟨#[]⟩, .int .i64 0, .int .i64 0, .int .i64 0, .string ⟨#[]⟩, .bool false, .slice none 0 0, .slice none 0 0, .slice none 0 0] (yma (t + 1)) 69 rfl rfl HGZ.out infoTp rfl HAL.out ?_; rw [World.setRow_alloc_new]; generalize w2.alloc (.cells (yma (t + 1)) 69) = w3 at *)
      clear HGZ
      generalize w2.heap.size = gx at *
      go_loopw [7] (fun i wr => ∃ k : Nat, k ≤ n ∧ i = .int .i64 k ∧ Hid (wr.heap[B]? = some (.cells (C.setIfInBounds 54 (.int .i64 ((t + 1 : Nat) : Int))) 47 (0, 0))) ∧ Hid (wr.ownsRow base 69 9 (.slice al n capl) n (KY.mkl (t + 1) k ++ xs.drop (k * 9))) ∧ Hid (Kp (fun k => k = B ∨ (Value.slice al n capl).ownBlock = some k) w wr) ∧ Hid (wr.heap[gx]? = some (.cells (yma (t + 1)) 69 (0, 0)))) (fun i _ => n - (intOf i).toNat)
      case atStart => exact ⟨0, Nat.zero_le _, rfl, HBR0, by simpa [Knd.mkl] using HROW0, HKP0, HX0⟩
      case round =>
        obtain ⟨k, hk, rfl, HBR, HROW, HKP, HX⟩ := hrel
        clear HBR0 HROW0 HKP0 HX0
        by_cases hlt : k < n
        · have hlt' : (k : Int) < (n : Int) := by omega
          obtain ⟨g, hg⟩ : ∃ g, al = some ⟨g, 0, none⟩ := by
            rcases HL.out.2 with ⟨_, h0⟩ | ⟨g, _, _, hv, _⟩
            · omega
            · injection hv with hv; exact ⟨g, hv⟩
          subst hg
          obtain ⟨cur, hcur, hcz⟩ : ∃ cur, wr.heap[g]? = some (.cells cur 69 (0, 0)) ∧ n * 9 ≤ cur.size := by
            rcases HROW.out.2 with ⟨e, _⟩ | ⟨g', cap', cur, e, _, h1, h2, _, h3, _⟩
            · cases e
            · injection e with e1 e2 e3
              injection e1 with e1
              injection e1 with e1 _ _
              subst e1
              exact ⟨cur, h1, by rw [h3]; exact Nat.mul_le_mul_right 9 h2⟩
          have HGL : Hid (g < w.heap.size) := (HL.out.lt g rfl).2
          have HXC : Hid (∀ j u, (yma (t + 1))[j]? = some u → wr.cell? ⟨gx, 0 + j, none⟩ = some u) := fun j u hu => by rw [Nat.zero_add]; exact blk_cell HX.out hu
          have HCUR : Hid (wr.heap[g]? = some (.cells cur.toList.toArray 69 (0, 0))) := hcur
          have HLT : Hid (k * 9 + 9 ≤ cur.toList.length) := by show _ ≤ _; simp; omega
          have HST : Hid (∀ w6 : World, w6.heap[g]? = some (.cells (splice cur.toList (k * 9) (yma (t + 1)).toList).toArray 69 (0, 0)) → Kp (fun q => q = g) wr w6 → w6.heap[B]? = some (.cells (C.setIfInBounds 54 (.int .i64 ((t + 1 : Nat) : Int))) 47 (0, 0)) ∧ w6.ownsRow base 69 9 (.slice (some ⟨g, 0, none⟩) n capl) n (KY.mkl (t + 1) (k + 1) ++ xs.drop ((k + 1) * 9)) ∧ Kp (fun k => k = B ∨ (Value.slice (some ⟨g, 0, none⟩) n capl).ownBlock = some k) w w6 ∧ w6.heap[gx]? = some (.cells (yma (t + 1)) 69 (0, 0))) := fun w6 h6 hk6 => by
            refine ⟨(hk6.block B (blk_lt HBR.out) (fun e => HLB.out (by rw [e]; rfl))).trans HBR.out, ?_, HKP.out.trans hk6 (fun q _ e => .inr (by rw [e]; rfl)), (hk6.block gx (blk_lt HX.out) (fun e => by have h1 := HGL.out; have h2 := HGX.out; omega)).trans HX.out⟩
            have h := own_spl (k := k) HROW.out hcur hlt (zs := (yma (t + 1)).toList) rfl h6
            have h1 := spl_step (F := KY) (m := t + 1) (k := k) (xs := xs) (fun _ => rfl)
            have h2 : splice (KY.mkl (t + 1) k ++ xs.drop (k * 9)) (k * 9) (yma (t + 1)).toList = KY.mkl (t + 1) (k + 1) ++ xs.drop ((k + 1) * 9) := h1
            rw [h2] at h
            exact h
          clear hcur hcz HBR HROW HKP HX
          go_wp2_with (first
            | (refine wpList_aggAt rfl rfl infoTp aggTp gx 0 (yma (t + 1)) rfl rfl HXC.out ?_)
            | (refine wpList_storePart rfl rfl g (k * 9) cur.toList (yma (t + 1)).toList 69 rfl rfl HCUR.out infoTp HLT.out (yma_one (t + 1)) ?_))
          intro w6 h6 hk6
          obtain ⟨q1, q2, q3, q4⟩ := HST.out w6 h6.out hk6.out
          have HBR2 := hide q1
          have HRO2 := hide q2
          have HKP2 := hide q3
          have HX2 := hide q4
          clear h6 hk6 HST q1 q2 q3 q4
          go_wp2
          go_roundw
          case rel => exact ⟨k + 1, by omega, by go_num, HBR2, HRO2, HKP2, HX2⟩
          case measure => simp [intOf]; omega
        · have hlt' : ¬ (k : Int) < (n : Int) := by omega
          have hkn : k = n := by omega
          have HW : Hid (wr.ownsRow base 69 9 (.slice al n capl) n (KY.mkl (t + 1) n)) := by
            have h := HROW.out
            have hxl : xs.length = n * 9 := HL.out.1
            rw [hkn, List.drop_of_length_le (by omega), List.append_nil] at h
            exact h
          have HCC := hide ((HK.out.c).marked KY_ok HBB.out HL.out HD.out HKP.out)
          clear hkn HROW
          have hu := HU.out
          by_cases hfull : (16777216 : Int) < (u : Int) + (8000 + 300 * (n : Int))
          · have HTF := hide (tightQ_full HBR.out (by rw [get_set_ne (by decide)]; exact HC56.out) (8000 + 300 * (n : Int)) hu (by omega) (by have := HN.out; omega) (by omega))
            go_wp2_with fail
            refine HTF.out.mono ?_
            rintro e w' ⟨rfl, rfl⟩
            go_wp2
            refine bodyPost_ret (results_none rfl _ _ _) rfl ?_
            exact ⟨rfl, HEND.out _ (BkP.full KY_ok HBB.out HJ0.out HJ1.out HC56.out (by decide) H57.out HK.out HL.out HD.out HU.out HBR.out HKP.out)⟩
          · obtain ⟨U, hU⟩ : ∃ U : Nat, U = u + (8000 + 300 * n) := ⟨_, rfl⟩
            have HTR := hide (tightQ_room HBR.out (by rw [get_set_ne (by decide)]; exact HC56.out) (8000 + 300 * (n : Int)) hu (by omega) (by have := HN.out; omega) (by omega) U (by omega))
            have HUU : Hid (u + KY.cost ≤ U ∧ U ≤ 16777216) := ⟨by show u + 8000 ≤ U; omega, by omega⟩
            clear hU
            go_wp2_with fail
            refine HTR.out.mono ?_
            rintro e w2 ⟨rfl, hblk2, hkp2⟩
            have HB2 := hide hblk2
            have HC2 : Hid (Kc KY w2 base vb vo es t) := HCC.out.kp hkp2 (fun q hq e => HCC.out.notB KY_ok HBR.out (by rw [← e]; exact hq))
            have HW2 : Hid (w2.ownsRow base 69 9 (.slice al n capl) n (KY.mkl (t + 1) n)) := hkp2.owns HW.out (fun q hq e => own_not HW.out HBR.out (by decide) (by rw [← e]; exact hq))
            have HK2 : Hid (Kp (fun k => k = B ∨ (Value.slice al n capl).ownBlock = some k) w w2) := HKP.out.trans hkp2 (fun q _ e => .inl e)
            have HBS : Hid (base ≤ w2.heap.size) := Nat.le_trans HBASE.out HK2.out.size
            have hlen : es.length < 1099511627776 := by obtain ⟨c, r, h1, h2, h3⟩ := HK.out.count; simp only [KY] at h2 h3; omega
            have c0 : w2.cell? ⟨B, 45, none⟩ = some vb := blk_cell hblk2 (by rw [get_set_ne (by decide), get_set_ne (by decide)]; exact HJ0.out)
            clear hblk2 hkp2 HCC HW HTR HKP HBR hfull
            go_wp2_with (at_builtin; refine append_lst rfl _ _ 22 49 iL Tryz.underlying22 hiL hzL0 hzL1 hzL2 rfl base vb es.length _ rfl HC2.out.hb _ _ rfl rfl rfl hlen HBS.out ?_)
            intro v3 w3 ho3 hg3 hat3
            obtain ⟨a3, c3, hv3⟩ := own_slice ho3
            obtain ⟨hblk3, hblk4, hhalf, hkp4⟩ := HC2.out.push_a KY_ok HB2.out 45 ⟨Value.slice al n capl, n, t + 1⟩ HW2.out v3 ho3 hg3
            have c0' : w3.cell? ⟨B, 45, none⟩ = some vb := blk_cell hblk3 (by rw [get_set_ne (by decide), get_set_ne (by decide)]; exact HJ0.out)
            have c1' : (w3.setCell ⟨B, 45, none⟩ v3).cell? ⟨B, 46, none⟩ = some vo := blk_cell hblk4 (by rw [get_set_ne (by decide), get_set_ne (by decide), get_set_ne (by decide)]; exact HJ1.out)
            have f0' := blk_frozen 45 hblk3
            have HHF := hide hhalf
            have HKP4 := hide hkp4
            have HB4 := hide hblk4
            have HAT3 : Hid (∀ z, v3.ownBlock = some z → vb.ownBlock = some z ∨ w.heap.size ≤ z) := fun z hz => by
              rcases hat3 with h | h
              · exact .inl (by rw [← h]; exact hz)
              · rw [h] at hz; injection hz with hz; exact .inr (by have := HK2.out.size; omega)
            have HSZ4 : Hid (base ≤ (w3.setCell ⟨B, 45, none⟩ v3).heap.size ∧ w.heap.size ≤ (w3.setCell ⟨B, 45, none⟩ v3).heap.size) := ⟨Nat.le_trans HBS.out hkp4.size, Nat.le_trans HK2.out.size hkp4.size⟩
            have HLEN := hide hlen
            subst hv3
            clear ho3 hg3 hat3 hblk3 hblk4 hhalf hkp4 c0 hlen
            go_wp2_with (at_builtin; go_must (refine append_int rfl _ _ rfl base vo es.length _ rfl HHF.out.ho _ w3.heap.size (by simp) rfl HLEN.out HSZ4.out.1 ?_))
            intro v5 w5 ho5 hg5 hat5
            obtain ⟨a5, c5, hv5⟩ := own_slice ho5
            have e1 : ((t : Int) + 1) = ((t + 1 : Nat) : Int) := by omega
            rw [e1] at ho5 hg5
            obtain ⟨hblk5, hblk6, hbk6, hkp6⟩ := HHF.out.push_b KY_ok (t := t + 1) HB4.out 46 v5 ho5 hg5 HC2.out.hs (fun x hx z h1 h2 => absurd h2 (HD.out x hx z h1)) (fun x hx => ⟨by have := (HC2.out.hm x hx).1; omega, (HC2.out.hm x hx).2⟩) ⟨Nat.le_refl _, by have := HN.out; show n < _; omega⟩
            have c1'' : w5.cell? ⟨B, 46, none⟩ = some vo := blk_cell hblk5 (by rw [get_set_ne (by decide), get_set_ne (by decide), get_set_ne (by decide)]; exact HJ1.out)
            have f1'' := blk_frozen 46 hblk5
            have HFI : Hid (BkP KY 45 w base B C vb vo es a t u (.slice al n capl) (w5.setCell ⟨B, 46, none⟩ v5)) := BkP.kept (by decide) H57.out HK.out HD.out HN.out HUU.out.2 HUU.out.1 HK2.out HKP4.out hkp6 hblk6 hbk6 HAT3.out (fun z hz => by
              rcases hat5 with h | h
              · exact .inl (by rw [← h]; exact hz)
              · rw [h] at hz; injection hz with hz; exact .inr (by have := HSZ4.out.2; simp at this; omega))
            subst hv5
            clear ho5 hg5 hat5 hblk5 hblk6 hbk6 hkp6 e1
            go_wp2
            go_end0
            exact ⟨rfl, HEND.out _ HFI.out⟩
end
section
open Go.RowKit Go
def un (c : Nat) : Nat := if 194 ≤ c ∧ c ≤ 223 then 2 else if 224 ≤ c ∧ c ≤ 239 then 3 else if 240 ≤ c ∧ c ≤ 244 then 4 else 0
def ulo (c : Nat) : Nat := if c = 240 then 144 else if c = 224 then 160 else 128
def uhi (c : Nat) : Nat := if c = 244 then 143 else if c = 237 then 159 else 191
def uone (b : List Nat) : Nat := match b with
  | [] => 0
  | c :: r => if c < 128 then 1
    else if un c = 0 ∨ b.length < un c ∨ r.getD 0 0 < ulo c ∨ uhi c < r.getD 0 0 then 0
    else if ((b.take (un c)).drop 2).all (fun x => decide (128 ≤ x) && decide (x ≤ 191)) then un c else 0
theorem mem_take_drop2 {B : List Nat} {i n : Nat} (h2 : 2 ≤ i) (hn : i < n) (hi : i < B.length) : B.getD i 0 ∈ (B.take n).drop 2 := by
  rw [List.mem_iff_getElem?]
  refine ⟨i - 2, ?_⟩
  rw [List.getElem?_drop, show 2 + (i - 2) = i by omega, List.getElem?_take_of_lt hn, List.getD_eq_getElem?_getD, List.getElem?_eq_getElem hi]
  rfl
end
section
open Go.RowKit Go
theorem uone_le (b : List Nat) : uone b ≤ b.length := by
  unfold uone
  split
  · omega
  · rename_i c r
    split
    · simp
    · split
      · omega
      · split
        · omega
        · omega
def ugood (b : List Nat) : Bool := if b = [] then true else if _h : uone b = 0 then false else ugood (b.drop (uone b))
termination_by b.length
decreasing_by
  have := uone_le b
  rw [List.length_drop]
  omega
theorem ugood_nil : ugood [] = true := by rw [ugood, if_pos rfl]
theorem ugood_bad {b : List Nat} (h : b ≠ []) (h0 : uone b = 0) : ugood b = false := by rw [ugood, if_neg h, dif_pos h0]
theorem ugood_step {b : List Nat} (h : b ≠ []) (h0 : uone b ≠ 0) : ugood b = ugood (b.drop (uone b)) := by rw [ugood, if_neg h, dif_neg h0]
end
section
open Go.RowKit Go
theorem first_un : ∀ c : Fin 256, 128 ≤ c.val → (un c.val = 0 → Lib.firstT c.val % 8 ≠ 2 ∧ Lib.firstT c.val % 8 ≠ 3 ∧ Lib.firstT c.val % 8 ≠ 4) ∧ (un c.val ≠ 0 → Lib.firstT c.val % 8 = un c.val ∧ Lib.accLo (Lib.firstT c.val / 16) = ulo c.val ∧ Lib.accHi (Lib.firstT c.val / 16) = uhi c.val) := by decide +kernel
theorem un_is (c : Nat) : un c = 0 ∨ un c = 2 ∨ un c = 3 ∨ un c = 4 := by
  unfold un
  split
  · omega
  · split
    · omega
    · split <;> omega
theorem uone_lead (c : Nat) (r : List Nat) (h : 128 ≤ c) : uone (c :: r) = if un c = 0 ∨ (c :: r).length < un c ∨ r.getD 0 0 < ulo c ∨ uhi c < r.getD 0 0 then 0 else if (((c :: r).take (un c)).drop 2).all (fun x => decide (128 ≤ x) && decide (x ≤ 191)) then un c else 0 := by
  show (if c < 128 then 1 else _) = _
  rw [if_neg (by omega)]
theorem uone_chk (x : UInt8) (r : List UInt8) (h : 128 ≤ x.toNat) : Lib.checkN (x :: r).length ((x :: r).getD 1 0).toNat ((x :: r).getD 2 0).toNat ((x :: r).getD 3 0).toNat (Lib.firstT x.toNat % 8) (Lib.accLo (Lib.firstT x.toNat / 16)) (Lib.accHi (Lib.firstT x.toNat / 16)) = if uone ((x :: r).map UInt8.toNat) = 0 then none else some (uone ((x :: r).map UInt8.toNat)) := by
  obtain ⟨h0, h1⟩ := first_un ⟨x.toNat, x.toNat_lt⟩ h
  simp only at h0 h1
  rw [List.map_cons, uone_lead _ _ h]
  by_cases hu : un x.toNat = 0
  · have e := h0 hu
    rw [if_pos (Or.inl hu : un x.toNat = 0 ∨ _), if_pos (rfl : (0 : Nat) = 0)]
    unfold Lib.checkN
    rw [if_neg e.1, if_neg e.2.1, if_neg e.2.2]
  · obtain ⟨e1, e2, e3⟩ := h1 hu
    rw [e1, e2, e3]
    clear e1 e2 e3 h0 h1
    unfold Lib.checkN
    generalize ulo x.toNat = lo
    generalize uhi x.toNat = hi
    rcases un_is x.toNat with e | e | e | e
    · exact absurd e hu
    · rw [e]
      clear e hu
      rcases r with _ | ⟨a, _ | ⟨b, _ | ⟨d, r⟩⟩⟩ <;> simp <;> (try split) <;> simp_all <;> omega
    · rw [e]
      clear e hu
      rcases r with _ | ⟨a, _ | ⟨b, _ | ⟨d, r⟩⟩⟩ <;> simp <;> (try split) <;> simp_all <;> omega
    · rw [e]
      clear e hu
      rcases r with _ | ⟨a, _ | ⟨b, _ | ⟨d, r⟩⟩⟩ <;> simp <;> (try split) <;> simp_all <;> omega
theorem uone_ascii (c : Nat) (r : List Nat) (h : c < 128) : uone (c :: r) = 1 := if_pos h
theorem valid_ugood (n : Nat) : ∀ l : List UInt8, l.length ≤ n → Lib.validD l = ugood (l.map UInt8.toNat) := by
  induction n with
  | zero => intro l hl; rw [List.eq_nil_of_length_eq_zero (Nat.le_zero.1 hl)]; exact ugood_nil.symm
  | succ n ih =>
    intro l hl
    rcases l with _ | ⟨x, r⟩
    · exact ugood_nil.symm
    · by_cases h : x.toNat < 128
      · rw [Lib.validD_cons x r h, List.map_cons, ugood_step (by simp) (by rw [uone_ascii _ _ h]; decide), uone_ascii _ _ h, ih r (by simp at hl; omega)]
        rfl
      · have hk := uone_chk x r (by omega)
        rw [Lib.validD_lead (x :: r) (by simp) (by show 128 ≤ x.toNat; omega)]
        show (match Lib.checkN (x :: r).length ((x :: r).getD 1 0).toNat ((x :: r).getD 2 0).toNat ((x :: r).getD 3 0).toNat (Lib.firstT x.toNat % 8) (Lib.accLo (Lib.firstT x.toNat / 16)) (Lib.accHi (Lib.firstT x.toNat / 16)) with | none => false | some k => Lib.validD ((x :: r).drop k)) = _
        rw [hk]
        by_cases h0 : uone ((x :: r).map UInt8.toNat) = 0
        · rw [if_pos h0, ugood_bad (by simp) h0]
        · rw [if_neg h0, ugood_step (by simp) h0]
          show Lib.validD ((x :: r).drop (uone ((x :: r).map UInt8.toNat))) = _
          have hle := uone_le ((x :: r).map UInt8.toNat)
          rw [List.length_map] at hle
          rw [ih _ (by rw [List.length_drop]; simp only [List.length_cons] at hl ⊢; omega), List.map_drop]
theorem bad_good (s : ByteArray) : badb s = !ugood (sl s) := by
  unfold badb sl
  rw [valid_ugood _ _ (Nat.le_refl _)]
end
section
open Go.RowKit Go
theorem emp_l11 : (ByteArray.mk #[]).toList = [] := by rw [ByteArray.toList_eq]
def cv (c : Nat) (l : List Nat) : Nat := l.foldl (fun c x => 64 * c + x - 128) c
theorem cv_app (c : Nat) (l : List Nat) (x : Nat) : cv c (l ++ [x]) = 64 * cv c l + x - 128 := by simp [cv]
def gld (c n least c0 : Nat) : Prop := (194 ≤ c ∧ c < 224 ∧ n = 1 ∧ least = 128 ∧ c0 = c - 192) ∨ (224 ≤ c ∧ c < 240 ∧ n = 2 ∧ least = 2048 ∧ c0 = c - 224) ∨ (240 ≤ c ∧ c < 245 ∧ n = 3 ∧ least = 65536 ∧ c0 = c - 240)
set_option maxRecDepth 1000000 in
theorem gld_un {c n least c0 : Nat} (h : gld c n least c0) : un c = n + 1 ∧ 128 ≤ c := by
  unfold un
  rcases h with ⟨h1, h2, rfl, rfl, rfl⟩ | ⟨h1, h2, rfl, rfl, rfl⟩ | ⟨h1, h2, rfl, rfl, rfl⟩
  · rw [if_pos (by omega)]; omega
  · rw [if_neg (by omega), if_pos (by omega)]; omega
  · rw [if_neg (by omega), if_neg (by omega), if_pos (by omega)]; omega
theorem ulo_b (c : Nat) : 128 ≤ ulo c := by unfold ulo; split <;> (try split) <;> omega
theorem uhi_b (c : Nat) : uhi c ≤ 191 := by unfold uhi; split <;> (try split) <;> omega
theorem g_none {c : Nat} {r : List Nat} (h0 : 128 ≤ c) (h : c < 194 ∨ 245 ≤ c) : uone (c :: r) = 0 := by
  rw [uone_lead _ _ h0, if_pos]
  refine .inl ?_
  unfold un
  rw [if_neg (by omega), if_neg (by omega), if_neg (by omega)]
theorem g_bad {c n least c0 k : Nat} {r : List Nat} (h : gld c n least c0) (hk : k < n) (hb : r.length ≤ k ∨ r.getD k 0 < 128 ∨ 191 < r.getD k 0) : uone (c :: r) = 0 := by
  obtain ⟨hu, h0⟩ := gld_un h
  rw [uone_lead _ _ h0, hu]
  by_cases hl : (c :: r).length < n + 1
  · rw [if_pos (.inr (.inl hl))]
  have hl2 : n ≤ r.length := by simp at hl; omega
  rcases k with _ | k
  · refine if_pos ?_
    have := ulo_b c
    have := uhi_b c
    refine .inr (.inr ?_)
    rcases hb with hb | hb | hb <;> omega
  · by_cases hc : n + 1 = 0 ∨ (c :: r).length < n + 1 ∨ r.getD 0 0 < ulo c ∨ uhi c < r.getD 0 0
    · rw [if_pos hc]
    rw [if_neg hc, if_neg]
    intro hall
    have hm : r.getD (k + 1) 0 ∈ ((c :: r).take (n + 1)).drop 2 := by
      have := mem_take_drop2 (B := c :: r) (i := k + 2) (n := n + 1) (by omega) (by omega) (by simp; omega)
      rwa [List.getD_cons_succ] at this
    have h1 := List.all_eq_true.1 hall _ hm
    simp at h1
    rcases hb with hb | hb | hb
    · omega
    · simp at hb; omega
    · simp at hb; omega
set_option maxRecDepth 1000000 in
theorem g_fin {c n least c0 : Nat} {r : List Nat} (h : gld c n least c0) (hl : n ≤ r.length) (ha : ∀ k, k < n → 128 ≤ r.getD k 0 ∧ r.getD k 0 ≤ 191) : uone (c :: r) = if cv c0 (r.take n) < least ∨ 1114111 < cv c0 (r.take n) ∨ (55296 ≤ cv c0 (r.take n) ∧ cv c0 (r.take n) ≤ 57343) then 0 else n + 1 := by
  obtain ⟨hu, h128⟩ := gld_un h
  rw [uone_lead _ _ h128, hu]
  rcases h with ⟨h1, h2, rfl, rfl, rfl⟩ | ⟨h1, h2, rfl, rfl, rfl⟩ | ⟨h1, h2, rfl, rfl, rfl⟩
  · rcases r with _ | ⟨a, r⟩
    · simp at hl
    have h0 := ha 0 (by omega)
    have e : cv (c - 192) ((a :: r).take 1) = 64 * (c - 192) + a - 128 := rfl
    have hlo : ulo c = 128 := by unfold ulo; rw [if_neg (by omega), if_neg (by omega)]
    have hhi : uhi c = 191 := by unfold uhi; rw [if_neg (by omega), if_neg (by omega)]
    simp only [List.getD_cons_zero] at h0
    rw [e, hlo, hhi, List.getD_cons_zero, if_neg (by simp; omega), if_pos (by simp), if_neg (by omega)]
  · rcases r with _ | ⟨a, _ | ⟨b, r⟩⟩
    · simp at hl
    · simp at hl
    have h0 := ha 0 (by omega)
    have h3 := ha 1 (by omega)
    have e : cv (c - 224) ((a :: b :: r).take 2) = 64 * (64 * (c - 224) + a - 128) + b - 128 := rfl
    simp only [List.getD_cons_zero] at h0
    simp only [List.getD_cons_succ, List.getD_cons_zero] at h3
    have hal : (((c :: a :: b :: r).take (2 + 1)).drop 2).all (fun x => decide (128 ≤ x) && decide (x ≤ 191)) = true := by simp; omega
    rw [e, List.getD_cons_zero, hal]
    have hlen : ¬ (c :: a :: b :: r).length < 2 + 1 := by simp
    generalize (c :: a :: b :: r).length = N at *
    by_cases c1 : c = 224
    · subst c1
      rw [show ulo 224 = 160 from rfl, show uhi 224 = 191 from rfl]
      by_cases hx : a < 160
      · rw [if_pos (by omega), if_pos (by omega)]
      · rw [if_neg (by omega), if_pos rfl, if_neg (by omega)]
    · by_cases c2 : c = 237
      · subst c2
        rw [show ulo 237 = 128 from rfl, show uhi 237 = 159 from rfl]
        by_cases hx : 159 < a
        · rw [if_pos (by omega), if_pos (by omega)]
        · rw [if_neg (by omega), if_pos rfl, if_neg (by omega)]
      · have hlo : ulo c = 128 := by unfold ulo; rw [if_neg (by omega), if_neg (by omega)]
        have hhi : uhi c = 191 := by unfold uhi; rw [if_neg (by omega), if_neg (by omega)]
        rw [hlo, hhi, if_neg (by omega), if_pos rfl, if_neg (by omega)]
  · rcases r with _ | ⟨a, _ | ⟨b, _ | ⟨d, r⟩⟩⟩
    · simp at hl
    · simp at hl
    · simp at hl
    have h0 := ha 0 (by omega)
    have h3 := ha 1 (by omega)
    have h4 := ha 2 (by omega)
    have e : cv (c - 240) ((a :: b :: d :: r).take 3) = 64 * (64 * (64 * (c - 240) + a - 128) + b - 128) + d - 128 := rfl
    simp only [List.getD_cons_zero] at h0
    simp only [List.getD_cons_succ, List.getD_cons_zero] at h3 h4
    have hal : (((c :: a :: b :: d :: r).take (3 + 1)).drop 2).all (fun x => decide (128 ≤ x) && decide (x ≤ 191)) = true := by simp; omega
    rw [e, List.getD_cons_zero, hal]
    have hlen : ¬ (c :: a :: b :: d :: r).length < 3 + 1 := by simp
    generalize (c :: a :: b :: d :: r).length = N at *
    by_cases c1 : c = 240
    · subst c1
      rw [show ulo 240 = 144 from rfl, show uhi 240 = 191 from rfl]
      by_cases hx : a < 144
      · rw [if_pos (by omega), if_pos (by omega)]
      · rw [if_neg (by omega), if_pos rfl, if_neg (by omega)]
    · by_cases c2 : c = 244
      · subst c2
        rw [show ulo 244 = 128 from rfl, show uhi 244 = 143 from rfl]
        by_cases hx : 143 < a
        · rw [if_pos (by omega), if_pos (by omega)]
        · rw [if_neg (by omega), if_pos rfl, if_neg (by omega)]
      · have hlo : ulo c = 128 := by unfold ulo; rw [if_neg (by omega), if_neg (by omega)]
        have hhi : uhi c = 191 := by unfold uhi; rw [if_neg (by omega), if_neg (by omega)]
        rw [hlo, hhi, if_neg (by omega), if_pos rfl, if_neg (by omega)]
theorem ugood_low : ∀ (n : Nat) (l : List Nat), l.length ≤ n → (∀ c ∈ l, c < 128) → ugood l = true := by
  intro n
  induction n with
  | zero => intro l hl _; rw [List.eq_nil_of_length_eq_zero (Nat.le_zero.1 hl)]; exact ugood_nil
  | succ n ih =>
    intro l hl ha
    rcases l with _ | ⟨c, r⟩
    · exact ugood_nil
    · have h1 := uone_ascii c r (ha c (List.mem_cons_self ..))
      rw [ugood_step (by simp) (by rw [h1]; decide), h1]
      exact ih r (by simp at hl; omega) (fun x hx => ha x (List.mem_cons_of_mem _ hx))
theorem nby_low {c : Nat} (h : nby c = true) : c < 128 := by
  unfold nby at h
  simp only [Bool.or_eq_true, decide_eq_true_eq] at h
  omega
theorem nbl_good {s : ByteArray} (h : nbl s = true) : badb s = false := by
  unfold nbl at h
  simp only [Bool.and_eq_true] at h
  rw [bad_good, ugood_low _ _ (Nat.le_refl _) (fun c hc => by
    unfold sl at hc
    obtain ⟨x, hx, rfl⟩ := List.mem_map.1 hc
    exact nby_low (List.all_eq_true.1 h.2 x hx))]
  rfl
end
section
open Go.RowKit Go
theorem aln_0 {l : List Tp} {i : Nat} {t : Tp} (h : aln l i t = 0) : (!nbl t.n || (ownK t.n).isSome || decide ((plc l t.n).getD 0 < i)) = false ∧ tdy t = true ∧ ((rfs t).any fun r => !(fnd l r.n).2) = false := by
  unfold aln at h
  split at h
  · exact absurd h (by decide)
  · rename_i h1
    split at h
    · exact absurd h (by decide)
    · rename_i h2
      split at h
      · exact absurd h (by decide)
      · split at h
        · exact absurd h (by decide)
        · rename_i h4
          exact ⟨Bool.eq_false_iff.2 h1, by simpa using h2, Bool.eq_false_iff.2 h4⟩
structure Fst (l : List Tp) : Prop where
  own : ∀ t ∈ l, ownK t.n = none
  nam : ∀ t ∈ l, nbl t.n = true
  tdy : ∀ t ∈ l, tdy t = true
  ref : ∀ t ∈ l, ∀ r ∈ rfs t, (fnd l r.n).2 = true
theorem aln_fst {l : List Tp} (h : ∀ i t, l[i]? = some t → aln l i t = 0) : Fst l := by
  have key : ∀ t ∈ l, ∃ i, l[i]? = some t := fun t ht => by
    obtain ⟨i, hi, e⟩ := List.getElem_of_mem ht
    exact ⟨i, by rw [List.getElem?_eq_getElem hi, e]⟩
  refine ⟨fun t ht => ?_, fun t ht => ?_, fun t ht => ?_, fun t ht r hr => ?_⟩
  · obtain ⟨i, hi⟩ := key t ht
    have h1 := (aln_0 (h i t hi)).1
    rw [Bool.or_eq_false_iff, Bool.or_eq_false_iff] at h1
    have h2 := h1.1.2
    cases hk : ownK t.n with
    | none => rfl
    | some k => rw [hk] at h2; cases h2
  · obtain ⟨i, hi⟩ := key t ht
    have h1 := (aln_0 (h i t hi)).1
    rw [Bool.or_eq_false_iff, Bool.or_eq_false_iff] at h1
    simpa using h1.1.1
  · obtain ⟨i, hi⟩ := key t ht
    exact (aln_0 (h i t hi)).2.1
  · obtain ⟨i, hi⟩ := key t ht
    have h1 := (aln_0 (h i t hi)).2.2
    rw [← Bool.not_eq_true, List.any_eq_true] at h1
    cases hk : (fnd l r.n).2 with
    | true => rfl
    | false => exact absurd ⟨r, hr, by rw [hk]; rfl⟩ h1
theorem own_ne {s : ByteArray} (h : ownK s = none) : s ≠ nAny ∧ s ≠ nNull := ⟨fun e => by subst e; exact absurd h (by decide), fun e => by subst e; exact absurd h (by decide)⟩
theorem fnd_some {l : List Tp} {s : ByteArray} {i : Nat} {t : Tp} (hp : plc l s = some i) (ht : l[i]? = some t) : fnd l s = (t, true) := by
  unfold fnd
  rw [hp]
  simp [List.getD, ht]
theorem fnd_none_k {l : List Tp} {s : ByteArray} (hp : plc l s = none) : (fnd l s).1.k = 0 := by
  unfold fnd
  rw [hp]
  simp only
  split <;> rfl
theorem fnd_none_2 {l : List Tp} {s : ByteArray} (hp : plc l s = none) : (fnd l s).2 = (ownK s).isSome := by
  unfold fnd
  rw [hp]
  simp only
  split
  · rename_i h; exact h.symm
  · rename_i h; exact (Bool.eq_false_iff.2 h).symm
theorem fnd_none_1 {l : List Tp} {s : ByteArray} (hp : plc l s = none) (h : (ownK s).isSome = true) : (fnd l s).1 = otp s := by
  unfold fnd
  rw [hp]
  simp only
  rw [if_pos h]
theorem fwr_flw {l : List Tp} (h : ∀ t ∈ l, ownK t.n = none) : ∀ (k : Nat) (s : ByteArray) (z : Bool), flw l k s z = ((fwr l k s z).1, (fwr l k s z).2.1)
  | 0, _, _ => rfl
  | k + 1, s, z => by
    cases hp : plc l s with
    | none =>
      rw [fwr_none hp, flw, fnd_none_k hp, if_pos (by decide), Bool.or_assoc]
    | some i =>
      obtain ⟨t, ht, hn⟩ := plc_lt hp
      rw [flw, fnd_some hp ht]
      by_cases hk : t.k = 1
      · rw [fwr_on hp ht hk, if_neg (fun e => e hk)]
        exact fwr_flw h k _ _
      · rw [fwr_end hp ht hk, if_pos hk]
        obtain ⟨h1, h2⟩ := own_ne (h t (List.mem_of_getElem? ht))
        rw [hn] at h1 h2
        rw [decide_eq_false h1, decide_eq_false h2, Bool.or_false, Bool.or_false]
theorem flo_flr {l : List Tp} (h : Fst l) (s : ByteArray) : flo l s = ((flr l s).1, (flr l s).2.1) := fwr_flw h.own _ _ _
theorem fwr_no {l : List Tp} : ∀ (k : Nat) (s : ByteArray) (z : Bool), (fwr l k s z).2.2 = false → fwr l k s z = (⟨#[]⟩, false, false)
  | 0, _, _, _ => rfl
  | k + 1, s, z, h => by
    cases hp : plc l s with
    | none => rw [fwr_none hp] at h; cases h
    | some i =>
      obtain ⟨t, ht, hn⟩ := plc_lt hp
      by_cases hk : t.k = 1
      · rw [fwr_on hp ht hk] at h ⊢
        exact fwr_no k _ _ h
      · rw [fwr_end hp ht hk] at h
        cases h
structure Fen (l : List Tp) (s : ByteArray) (z : Bool) : Prop where
  known : (fnd l s).2 = true
  kind : (fnd l s).1.k ≠ 1
  null : plc l s = none → z = false → s ≠ nAny ∧ s ≠ nNull
theorem fwr_fen {l : List Tp} (hr : ∀ t ∈ l, t.k = 1 → (fnd l t.r.n).2 = true) : ∀ (k : Nat) (s : ByteArray) (z : Bool), (fnd l s).2 = true → (fwr l k s z).2.2 = true → Fen l (fwr l k s z).1 (fwr l k s z).2.1
  | 0, _, _, _, h => by cases h
  | k + 1, s, z, hs, h => by
    cases hp : plc l s with
    | none =>
      rw [fwr_none hp]
      refine ⟨hs, by rw [fnd_none_k hp]; decide, fun _ hz => ?_⟩
      rw [Bool.or_eq_false_iff, Bool.or_eq_false_iff] at hz
      exact ⟨of_decide_eq_false hz.2.1, of_decide_eq_false hz.2.2⟩
    | some i =>
      obtain ⟨t, ht, hn⟩ := plc_lt hp
      by_cases hk : t.k = 1
      · rw [fwr_on hp ht hk] at h ⊢
        exact fwr_fen hr k _ _ (hr t (List.mem_of_getElem? ht) hk) h
      · rw [fwr_end hp ht hk]
        exact ⟨hs, by rw [fnd_some hp ht]; exact hk, fun h2 => by rw [hp] at h2; cases h2⟩
theorem Fst.name {l : List Tp} (h : Fst l) : ∀ t ∈ l, t.k = 1 → (fnd l t.r.n).2 = true := fun t ht hk => h.ref t ht t.r (by unfold rfs; rw [if_pos (.inl hk)]; simp)
theorem flr_fen {l : List Tp} (h : Fst l) {s : ByteArray} (hs : (fnd l s).2 = true) (he : (flr l s).2.2 = true) : Fen l (flr l s).1 (flr l s).2.1 := fwr_fen h.name _ _ _ hs he
theorem fnd_own {l : List Tp} {i : Nat} {t : Tp} (ht : l[i]? = some t) : (fnd l t.n).2 = true := by
  cases hp : plc l t.n with
  | none =>
    exfalso
    have : ∀ (l : List Tp) (i : Nat), l[i]? = some t → plc l t.n ≠ none := by
      intro l
      induction l with
      | nil => intro i h; cases h
      | cons u r ih =>
        intro i h
        unfold plc
        split
        · simp
        · rename_i hu
          rcases i with _ | i
          · have e : u = t := by simpa using h
            exact absurd (by rw [e]) hu
          · have := ih i (by simpa using h)
            simpa using this
    exact this l i ht hp
  | some j =>
    obtain ⟨u, hu, _⟩ := plc_lt hp
    rw [fnd_some hp hu]
theorem fnd_empty {l : List Tp} (h : Fst l) : (fnd l ⟨#[]⟩).2 = false := by
  cases hp : plc l ⟨#[]⟩ with
  | none => rw [fnd_none_2 hp]; decide
  | some i =>
    obtain ⟨t, ht, hn⟩ := plc_lt hp
    have := h.nam t (List.mem_of_getElem? ht)
    rw [hn] at this
    exact absurd this (by decide)
theorem rng_flr {l : List Tp} (h : Fst l) {i : Nat} {t : Tp} (ht : l[i]? = some t) : rng l t = if (flr l t.n).2.2 then 0 else 117 := by
  unfold rng
  rw [flo_flr h]
  cases he : (flr l t.n).2.2 with
  | false =>
    have := fwr_no _ _ _ he
    rw [show flr l t.n = (⟨#[]⟩, false, false) from this]
    rw [if_pos rfl]
    rfl
  | true =>
    rw [if_neg, if_pos rfl]
    intro e
    have h1 := (flr_fen h (fnd_own ht) he).known
    have e1 : (flr l t.n).1 = ⟨#[]⟩ := (Prod.mk.inj e).1
    rw [e1, fnd_empty h] at h1
    cases h1
theorem owns_kinds : owns.all (fun p => decide (p.1 = nAny) || decide (p.1 = nNull) || (decide (2 ≤ p.2) && decide (p.2 ≤ 7))) = true := by decide
theorem ownK_kind {s : ByteArray} {k : Nat} (h : ownK s = some k) (h1 : s ≠ nAny) (h2 : s ≠ nNull) : 2 ≤ k ∧ k ≤ 7 := by
  unfold ownK at h
  obtain ⟨p, hp, rfl⟩ := Option.map_eq_some_iff.1 h
  have hm := List.mem_of_find?_eq_some hp
  have he : p.1 = s := by simpa using List.find?_some hp
  have := List.all_eq_true.1 owns_kinds p hm
  rw [he, decide_eq_false h1, decide_eq_false h2, Bool.false_or, Bool.false_or, Bool.and_eq_true] at this
  exact ⟨of_decide_eq_true this.1, of_decide_eq_true this.2⟩
def ckd (l : List Tp) (s : ByteArray) : Nat := knd (fnd l (flo l s).1).1
structure Cok (l : List Tp) (s : ByteArray) : Prop where
  ends : (flr l s).2.2 = true
  fen : Fen l (flr l s).1 (flr l s).2.1
  null : (flr l s).2.1 = false
  one : (fnd l (flr l s).1).1.k ≠ 8
theorem Cok.kind {l : List Tp} (h : Fst l) {s : ByteArray} (c : Cok l s) : 2 ≤ ckd l s ∧ ckd l s ≤ 9 := by
  unfold ckd
  rw [flo_flr h]
  obtain ⟨-, f, hz, h8⟩ := c
  generalize (flr l s).1 = e at *
  cases hp : plc l e with
  | none =>
    have h1 := fnd_none_2 hp
    rw [f.known] at h1
    obtain ⟨k, hk⟩ := Option.isSome_iff_exists.1 h1.symm
    rw [fnd_none_1 hp h1.symm]
    obtain ⟨n1, n2⟩ := f.null hp hz
    have := ownK_kind hk n1 n2
    have e : knd (otp e) = k := by unfold knd otp; simp [hk]
    omega
  | some i =>
    obtain ⟨t, ht, hn⟩ := plc_lt hp
    have h1 := f.kind
    rw [fnd_some hp ht] at h1 h8 ⊢
    have hd := h.tdy t (List.mem_of_getElem? ht)
    unfold tdy at hd
    simp only [Bool.and_eq_true, decide_eq_true_eq] at hd
    obtain ⟨⟨⟨⟨⟨hd, _⟩, _⟩, _⟩, _⟩, _⟩ := hd
    unfold knd
    simp only at h1 h8 ⊢
    split
    · omega
    · split
      · omega
      · split
        · omega
        · split
          · omega
          · omega
theorem ckd_8 {l : List Tp} (h : Fst l) {s : ByteArray} {i : Nat} {t : Tp} (hp : plc l (flr l s).1 = some i) (ht : l[i]? = some t) (h8 : t.k = 8) : ckd l s = 0 := by
  unfold ckd
  rw [flo_flr h]
  simp only
  rw [fnd_some hp ht]
  unfold knd
  simp only
  rw [if_neg (by omega), if_neg (by omega), if_neg (by omega), if_neg (by omega), h.own t (List.mem_of_getElem? ht)]
  rfl
theorem kap_bad {l : List Tp} (h : Fst l) {seen : List Nat} {c : Cz} {r : List Cz} (hb : (flr l c.n).2.1 = true ∨ ckd l c.n = 0 ∨ ckd l c.n ∈ seen) : kap l seen (c :: r) = false := by
  unfold kap
  simp only
  rw [if_pos]
  rw [Bool.or_eq_true, Bool.or_eq_true, decide_eq_true_eq, List.contains_iff_mem]
  rcases hb with hb | hb | hb
  · refine .inl (.inl ?_)
    rw [flo_flr h]
    exact hb
  · exact .inl (.inr hb)
  · exact .inr hb
theorem kap_next {l : List Tp} (h : Fst l) {seen : List Nat} {c : Cz} {r : List Cz} (hc : Cok l c.n) (hs : ckd l c.n ∉ seen) : kap l seen (c :: r) = kap l (ckd l c.n :: seen) r := by
  have hk := hc.kind h
  conv => lhs; unfold kap
  simp only
  rw [if_neg]
  · rfl
  rw [Bool.or_eq_true, Bool.or_eq_true, decide_eq_true_eq, List.contains_iff_mem]
  rintro ((hb | hb) | hb)
  · rw [flo_flr h] at hb
    simp only at hb
    rw [hc.null] at hb
    cases hb
  · have : ckd l c.n = 0 := hb
    omega
  · exact hs hb
theorem stray_eq (pre : List ByteArray) (s : ByteArray) : stray pre.reverse s = (memb pre s || badb s) := by
  unfold stray
  congr 1
  rw [Bool.eq_iff_iff, memb_iff, memb_iff, List.mem_reverse]
theorem goodT_no {pre : List ByteArray} {s : ByteArray} {r : List ByteArray} (h : (memb pre s || badb s) = true) : goodT pre.reverse (s :: r) = false := by
  rw [goodT, stray_eq, h]
  rfl
theorem goodT_yes {pre : List ByteArray} {s : ByteArray} {r : List ByteArray} (h1 : memb pre s = false) (h2 : badb s = false) : goodT pre.reverse (s :: r) = goodT (pre ++ [s]).reverse r := by
  rw [goodT, stray_eq, h1, h2, List.reverse_append]
  rfl
def mbP : List Fd → Bool
  | [] => false
  | [g] => g.m
  | _ :: r => mbP r
theorem mbP_app : ∀ (pre : List Fd) (f : Fd), mbP (pre ++ [f]) = f.m
  | [], _ => rfl
  | [_], _ => rfl
  | _ :: b :: r, f => by
    show mbP (b :: r ++ [f]) = f.m
    exact mbP_app (b :: r) f
theorem mbP_mem : ∀ {pre : List Fd}, mbP pre = true → ∃ g ∈ pre, g.m = true
  | [], h => by cases h
  | [g], h => ⟨g, by simp, h⟩
  | a :: b :: r, h => by
    obtain ⟨g, hg, e⟩ := mbP_mem (pre := b :: r) h
    exact ⟨g, List.mem_cons_of_mem _ hg, e⟩
def fpr (k : Int) (f g : Fd) : Bool := decide (g.n = f.n) || (decide (k = 5) && decide (g.k = f.k) || decide (k = 6) && (g.m && !f.m))
def fon (k : Int) (f : Fd) : Bool := nbl f.n && (!(decide (k = 5) && badb f.k) && !(decide (k = 6) && !decide (f.k = ⟨#[]⟩)))
def fok (k : Int) (pre : List Fd) (f : Fd) : Bool := fon k f && pre.all (fun g => !fpr k f g)
def ksP (k : Int) (pre : List Fd) : List ByteArray := if k = 5 then (pre.map (·.k)).reverse else []
def Mon (k : Int) (pre : List Fd) : Prop := k = 6 → ∀ g ∈ pre, g.m = true → mbP pre = true
theorem ksP_app (k : Int) (pre : List Fd) (f : Fd) : ksP k (pre ++ [f]) = if k = 5 then f.k :: ksP k pre else ksP k pre := by
  unfold ksP
  split
  · rw [List.map_append, List.reverse_append]; rfl
  · rfl
theorem ffs_no {k : Int} {pre : List Fd} {f : Fd} {r : List Fd} (hM : Mon k pre) (h : fok k pre f = false) : ffs k (pre.map (·.n)).reverse (ksP k pre) (mbP pre) (f :: r) = false := by
  rw [ffs]
  split
  · rfl
  · rename_i a1
    split
    · rfl
    · rename_i a2
      split
      · rfl
      · rename_i a3
        exfalso
        rw [stray_eq, Bool.not_eq_true, Bool.or_eq_false_iff, Bool.or_eq_false_iff] at a1
        obtain ⟨b1, b2, _⟩ := a1
        have b1 : nbl f.n = true := by simpa using b1
        unfold fok at h
        rw [Bool.and_eq_false_iff] at h
        rcases h with h | h
        · unfold fon at h
          rw [b1, Bool.true_and, Bool.and_eq_false_iff] at h
          rcases h with h | h
          · rw [Bool.not_eq_false', Bool.and_eq_true] at h
            refine a2 ?_
            rw [h.1, Bool.true_and]
            unfold stray
            rw [h.2, Bool.or_true]
          · rw [Bool.not_eq_false', Bool.and_eq_true] at h
            refine a3 ?_
            rw [h.1, Bool.true_and]
            have : f.k ≠ ⟨#[]⟩ := by simpa using h.2
            rw [decide_eq_true this, Bool.true_or]
        · rw [List.all_eq_false] at h
          obtain ⟨g, hg, e⟩ := h
          have e : fpr k f g = true := by simpa using e
          unfold fpr at e
          rw [Bool.or_eq_true, Bool.or_eq_true, Bool.and_eq_true, Bool.and_eq_true, Bool.and_eq_true, decide_eq_true_eq, decide_eq_true_eq, decide_eq_true_eq, decide_eq_true_eq] at e
          rcases e with e | ⟨e1, e2⟩ | ⟨e1, e2, e3⟩
          · have : memb (pre.map (·.n)) f.n = true := memb_iff.2 (List.mem_map.2 ⟨g, hg, e⟩)
            rw [b2] at this
            cases this
          · refine a2 ?_
            rw [decide_eq_true e1, Bool.true_and]
            unfold ksP
            rw [if_pos e1, stray_eq, memb_iff.2 (List.mem_map.2 ⟨g, hg, e2⟩), Bool.true_or]
          · refine a3 ?_
            rw [decide_eq_true e1, Bool.true_and, hM e1 g hg e2, e3, Bool.and_true, Bool.or_true]
theorem ffs_yes {k : Int} {pre : List Fd} {f : Fd} {r : List Fd} (h : fok k pre f = true) : ffs k (pre.map (·.n)).reverse (ksP k pre) (mbP pre) (f :: r) = ffs k ((pre ++ [f]).map (·.n)).reverse (ksP k (pre ++ [f])) (mbP (pre ++ [f])) r := by
  unfold fok fon at h
  rw [Bool.and_eq_true, Bool.and_eq_true, Bool.and_eq_true] at h
  obtain ⟨⟨h1, h2, h3⟩, h4⟩ := h
  have h4 : ∀ g ∈ pre, fpr k f g = false := fun g hg => by simpa using List.all_eq_true.1 h4 g hg
  have hn : memb (pre.map (·.n)) f.n = false := by
    rw [← Bool.not_eq_true, memb_iff]
    intro hm
    obtain ⟨g, hg, e⟩ := List.mem_map.1 hm
    have := h4 g hg
    unfold fpr at this
    rw [decide_eq_true e, Bool.true_or] at this
    cases this
  have hs : stray (pre.map (·.n)).reverse f.n = false := by rw [stray_eq, hn, nbl_good h1]; rfl
  have hk : (decide (k = 5) && stray (ksP k pre) f.k) = false := by
    by_cases h5 : k = 5
    · rw [decide_eq_true h5, Bool.true_and]
      unfold ksP
      rw [if_pos h5, stray_eq]
      have hb : badb f.k = false := by rw [decide_eq_true h5, Bool.true_and] at h2; simpa using h2
      have hm : memb (pre.map (·.k)) f.k = false := by
        rw [← Bool.not_eq_true, memb_iff]
        intro hm
        obtain ⟨g, hg, e⟩ := List.mem_map.1 hm
        have := h4 g hg
        unfold fpr at this
        rw [decide_eq_true h5, decide_eq_true e, Bool.true_and, Bool.true_or, Bool.or_true] at this
        cases this
      rw [hm, hb]
      rfl
    · rw [decide_eq_false h5, Bool.false_and]
  have hm : (decide (k = 6) && (decide (f.k ≠ ⟨#[]⟩) || mbP pre && !f.m)) = false := by
    by_cases h6 : k = 6
    · rw [decide_eq_true h6, Bool.true_and] at h3 ⊢
      have e : f.k = ⟨#[]⟩ := by simpa using h3
      rw [decide_eq_false (fun h => h e), Bool.false_or]
      cases hb : mbP pre with
      | false => rfl
      | true =>
        obtain ⟨g, hg, eg⟩ := mbP_mem hb
        have := h4 g hg
        unfold fpr at this
        rw [decide_eq_true h6, eg, Bool.true_and, Bool.true_and, Bool.or_eq_false_iff, Bool.or_eq_false_iff] at this
        rw [Bool.true_and]
        exact this.2.2
    · rw [decide_eq_false h6, Bool.false_and]
  rw [ffs, h1, hs, hk, hm, if_neg (by decide), if_neg (by decide), if_neg (by decide), mbP_app, ksP_app, List.map_append, List.reverse_append]
  rfl
theorem mon_app {k : Int} {pre : List Fd} {f : Fd} (_ : Mon k pre) (h : fok k pre f = true) : Mon k (pre ++ [f]) := by
  intro h6 g hg hm
  rw [mbP_app]
  rcases List.mem_append.1 hg with hg | hg
  · unfold fok at h
    rw [Bool.and_eq_true] at h
    have : fpr k f g = false := by simpa using List.all_eq_true.1 h.2 g hg
    unfold fpr at this
    rw [decide_eq_true h6, hm, Bool.true_and, Bool.true_and, Bool.or_eq_false_iff, Bool.or_eq_false_iff] at this
    simpa using this.2.2
  · rw [List.mem_singleton.1 hg] at hm
    exact hm
theorem tdy_len (t : Tp) : tdy t = (decide (1 ≤ t.k ∧ t.k ≤ 9) && len11 t) := by
  unfold tdy len11 usN usR usF usC usW
  simp only
  rw [Bool.eq_iff_iff]
  simp only [Bool.and_eq_true, Bool.or_eq_true, decide_eq_true_eq, List.isEmpty_iff, List.length_eq_zero_iff, beq_iff_eq]
  constructor
  · rintro ⟨⟨⟨⟨⟨h1, h2⟩, h3⟩, h4⟩, h5⟩, h6⟩
    exact ⟨h1, h2.imp_right And.left, h2.imp_right And.right, h3, h4, h5, h6⟩
  · rintro ⟨h1, h2, h2', h3, h4, h5, h6⟩
    refine ⟨⟨⟨⟨⟨h1, ?_⟩, h3⟩, h4⟩, h5⟩, h6⟩
    rcases h2 with h2 | h2
    · exact .inl h2
    · rcases h2' with h2' | h2'
      · exact .inl h2'
      · exact .inr ⟨h2, h2'⟩
def rgb (t : Tp) : Bool := (decide (t.k = 2) && decide (t.hi < t.lo)) || ((decide (t.k = 3) || decide (t.k = 4)) && (decide (t.lo < 0) || decide (t.hi < t.lo)))
theorem rgb_eq {t : Tp} (h : tdy t = true) : rgb t = decide (t.lo > t.hi ∨ (t.lo < 0 ∧ t.k ≠ 2)) := by
  rw [tdy_len, Bool.and_eq_true] at h
  obtain ⟨_, h⟩ := h
  unfold len11 at h
  rw [Bool.and_eq_true, Bool.and_eq_true] at h
  obtain ⟨h1, h2, _⟩ := h
  unfold usN at h1 h2
  rw [Bool.or_eq_true, decide_eq_true_eq, decide_eq_true_eq] at h1 h2
  unfold rgb
  rw [Bool.eq_iff_iff]
  simp only [Bool.or_eq_true, Bool.and_eq_true, decide_eq_true_eq]
  omega
theorem fft_other {t : Tp} (h : tdy t = true) (hk : ¬ (t.k = 5 ∨ t.k = 6)) : fft t = true := by
  unfold tdy at h
  simp only [Bool.and_eq_true, Bool.or_eq_true, decide_eq_true_eq, List.isEmpty_iff] at h
  obtain ⟨⟨⟨_, h4⟩, _⟩, _⟩ := h
  have e := h4.resolve_left hk
  unfold fft
  rw [e]
  rfl
theorem cft_other {t : Tp} (hk : t.k < 7) : cft t = true := by
  unfold cft
  rw [if_neg (by omega), if_neg (by omega), if_neg (by omega)]
theorem fnd_pli (l : List Tp) (s : ByteArray) : (!(fnd l s).2) = (decide (pli l s < 0) && !memb bltn s) := by
  unfold pli
  rw [memb_bltn]
  cases hp : plc l s with
  | none => rw [fnd_none_2 hp]; rfl
  | some i =>
    obtain ⟨t, ht, _⟩ := plc_lt hp
    rw [fnd_some hp ht, decide_eq_false (by simp only; omega)]
    rfl
end
section
open Go.RowKit Go
theorem decN_ge {n b0 b1 b2 b3 : Nat} (h : ¬ b0 < 128) : 128 ≤ (Lib.decodeN n b0 b1 b2 b3).1 := by
  unfold Lib.decodeN
  rw [if_neg h]
  repeat' split
  all_goals simp only
  all_goals omega
theorem nby_hi {r : Nat} (h : 128 ≤ r) : nby r = false := by
  unfold nby
  simp only [Bool.or_eq_false_iff, decide_eq_false_iff_not]
  omega
def strg (r : Nat) : Bool := !nby r
theorem idx_name (s : ByteArray) : ∀ (f pos : Nat), s.data.toList.length ≤ pos + f → decide (0 ≤ Lib.idxFuncFrom strg true s f pos) = !((s.data.toList.drop pos).all fun c => nby c.toNat)
  | 0, pos, h => by
    rw [List.drop_of_length_le (by omega)]
    rfl
  | f + 1, pos, h => by
    unfold Lib.idxFuncFrom
    have hs : s.size = s.data.toList.length := by rw [Array.length_toList]; rfl
    by_cases hp : pos < s.size
    · rw [if_pos hp]
      have hp' : pos < s.data.toList.length := by omega
      have hd := Lib.decode_N s pos
      have hg : s.data.toList.getD pos 0 = s.data.toList[pos] := by simp [List.getD, List.getElem?_eq_getElem hp']
      rw [hg] at hd
      rw [List.drop_eq_getElem_cons hp', List.all_cons]
      generalize s.data.toList[pos] = c at *
      by_cases hc : c.toNat < 128
      · have hd2 : Utf8.decode s pos = (c.toNat, 1) := by rw [hd]; unfold Lib.decodeN; rw [if_pos hc]
        rw [hd2]
        simp only [strg]
        rcases Bool.eq_false_or_eq_true (nby c.toNat) with hn | hn
        · simp only [hn, Bool.not_true, Bool.false_eq_true, if_false, Bool.true_and]
          exact idx_name s f (pos + 1) (by omega)
        · simp [hn]
      · have h1 : strg (Utf8.decode s pos).1 = true := by
          unfold strg
          rw [hd, nby_hi (decN_ge hc)]
          rfl
        rw [if_pos h1, nby_hi (by omega : 128 ≤ c.toNat)]
        simp
    · rw [if_neg hp, List.drop_of_length_le (by omega)]
      rfl
theorem idx_all (s : ByteArray) : decide (0 ≤ Lib.idxFunc strg true s) = !(s.data.toList.all fun c => nby c.toNat) := by
  have h := idx_name s s.size 0 (by rw [Array.length_toList, Nat.zero_add]; exact Nat.le_refl _)
  rw [List.drop_zero] at h
  exact h
set_option maxRecDepth 1000000 in
set_option maxHeartbeats 1000000 in
theorem strange_any (r : Nat) (w : World) : Calls Tryz.prog 135 #[.int .i32 (r : Int)] w fun e w' => e = .returned (.bool (strg r)) ∧ w' = w := by
  by_cases h1 : 97 ≤ r
  · have g1 : (97 : Int) ≤ (r : Int) := by omega
    by_cases h2 : r ≤ 122
    · have g2 : (r : Int) ≤ 122 := by omega
      have HK : Hid (strg r = false) := by show _ = _; unfold strg nby; rw [decide_eq_true (show 97 ≤ r ∧ r ≤ 122 from ⟨h1, h2⟩)]; rfl
      clear h1 h2
      go_enter Tryz.func135, Tryz.ntmps135
      go_wp2_with fail
      go_ret
      exact ⟨by rw [HK.out]; rfl, rfl⟩
    · have g2 : ¬ (r : Int) ≤ 122 := by omega
      have g3 : (65 : Int) ≤ (r : Int) := by omega
      have g4 : ¬ (r : Int) ≤ 90 := by omega
      have g5 : (48 : Int) ≤ (r : Int) := by omega
      have g6 : ¬ (r : Int) ≤ 57 := by omega
      have g7 : ((r : Int) == 45) = false := beq_eq_false_iff_ne.2 (by omega)
      have g8 : ((r : Int) == 46) = false := beq_eq_false_iff_ne.2 (by omega)
      have g9 : ((r : Int) == 95) = false := beq_eq_false_iff_ne.2 (by omega)
      have HK : Hid (strg r = true) := by
        show _ = _
        unfold strg nby
        rw [Bool.not_eq_true']
        simp only [Bool.or_eq_false_iff, decide_eq_false_iff_not]
        omega
      clear h1 h2
      go_enter Tryz.func135, Tryz.ntmps135
      go_wp2_with fail
      go_ret
      exact ⟨by rw [HK.out]; rfl, rfl⟩
  have g1 : ¬ (97 : Int) ≤ (r : Int) := by omega
  by_cases h3 : 65 ≤ r
  · have g3 : (65 : Int) ≤ (r : Int) := by omega
    by_cases h4 : r ≤ 90
    · have g4 : (r : Int) ≤ 90 := by omega
      have HK : Hid (strg r = false) := by
        show _ = _
        unfold strg nby
        rw [Bool.not_eq_false']
        simp only [Bool.or_eq_true, decide_eq_true_eq]
        omega
      clear h1 h3 h4
      go_enter Tryz.func135, Tryz.ntmps135
      go_wp2_with fail
      go_ret
      exact ⟨by rw [HK.out]; rfl, rfl⟩
    · have g4 : ¬ (r : Int) ≤ 90 := by omega
      have g5 : (48 : Int) ≤ (r : Int) := by omega
      have g6 : ¬ (r : Int) ≤ 57 := by omega
      have g7 : ((r : Int) == 45) = false := beq_eq_false_iff_ne.2 (by omega)
      have g8 : ((r : Int) == 46) = false := beq_eq_false_iff_ne.2 (by omega)
      obtain ⟨b9, hb9⟩ : ∃ b, b = decide (r = 95) := ⟨_, rfl⟩
      have g9 : ((r : Int) == 95) = b9 := by
        rw [hb9, Bool.eq_iff_iff, beq_iff_eq, decide_eq_true_eq]
        omega
      have HK : Hid (strg r = !b9) := by
        show _ = _
        unfold strg nby
        rw [hb9]
        congr 1
        rw [Bool.eq_iff_iff]
        simp only [Bool.or_eq_true, decide_eq_true_eq]
        omega
      clear h1 h3 h4 hb9
      go_enter Tryz.func135, Tryz.ntmps135
      go_wp2_with fail
      go_ret
      exact ⟨by rw [HK.out]; rfl, rfl⟩
  have g3 : ¬ (65 : Int) ≤ (r : Int) := by omega
  by_cases h5 : 48 ≤ r
  · have g5 : (48 : Int) ≤ (r : Int) := by omega
    by_cases h6 : r ≤ 57
    · have g6 : (r : Int) ≤ 57 := by omega
      have HK : Hid (strg r = false) := by
        show _ = _
        unfold strg nby
        rw [Bool.not_eq_false']
        simp only [Bool.or_eq_true, decide_eq_true_eq]
        omega
      clear h1 h3 h5 h6
      go_enter Tryz.func135, Tryz.ntmps135
      go_wp2_with fail
      go_ret
      exact ⟨by rw [HK.out]; rfl, rfl⟩
    · have g6 : ¬ (r : Int) ≤ 57 := by omega
      have g7 : ((r : Int) == 45) = false := beq_eq_false_iff_ne.2 (by omega)
      have g8 : ((r : Int) == 46) = false := beq_eq_false_iff_ne.2 (by omega)
      have g9 : ((r : Int) == 95) = false := beq_eq_false_iff_ne.2 (by omega)
      have HK : Hid (strg r = true) := by
        show _ = _
        unfold strg nby
        rw [Bool.not_eq_true']
        simp only [Bool.or_eq_false_iff, decide_eq_false_iff_not]
        omega
      clear h1 h3 h5 h6
      go_enter Tryz.func135, Tryz.ntmps135
      go_wp2_with fail
      go_ret
      exact ⟨by rw [HK.out]; rfl, rfl⟩
  have g5 : ¬ (48 : Int) ≤ (r : Int) := by omega
  by_cases h7 : r = 45
  · have g7 : ((r : Int) == 45) = true := beq_iff_eq.2 (by omega)
    have HK : Hid (strg r = false) := by
      show _ = _
      unfold strg nby
      rw [Bool.not_eq_false']
      simp only [Bool.or_eq_true, decide_eq_true_eq]
      omega
    clear h1 h3 h5 h7
    go_enter Tryz.func135, Tryz.ntmps135
    go_wp2_with fail
    go_ret
    exact ⟨by rw [HK.out]; rfl, rfl⟩
  have g7 : ((r : Int) == 45) = false := beq_eq_false_iff_ne.2 (by omega)
  by_cases h8 : r = 46
  · have g8 : ((r : Int) == 46) = true := beq_iff_eq.2 (by omega)
    have HK : Hid (strg r = false) := by
      show _ = _
      unfold strg nby
      rw [Bool.not_eq_false']
      simp only [Bool.or_eq_true, decide_eq_true_eq]
      omega
    clear h1 h3 h5 h7 h8
    go_enter Tryz.func135, Tryz.ntmps135
    go_wp2_with fail
    go_ret
    exact ⟨by rw [HK.out]; rfl, rfl⟩
  have g8 : ((r : Int) == 46) = false := beq_eq_false_iff_ne.2 (by omega)
  have g9 : ((r : Int) == 95) = false := beq_eq_false_iff_ne.2 (by omega)
  have HK : Hid (strg r = true) := by
    show _ = _
    unfold strg nby
    rw [Bool.not_eq_true']
    simp only [Bool.or_eq_false_iff, decide_eq_false_iff_not]
    omega
  clear h1 h3 h5 h7 h8
  go_enter Tryz.func135, Tryz.ntmps135
  go_wp2_with fail
  go_ret
  exact ⟨by rw [HK.out]; rfl, rfl⟩
theorem contF_any (s : ByteArray) (w : World) : Calls Tryz.prog 136 #[.string s, .func (.func 135) #[] #[]] w fun e w' => e = .returned (.bool (!(s.data.toList.all fun c => nby c.toNat))) ∧ Below w.heap.size w w' := by
  have h := Any.strings_ContainsFunc Tryz.laysCont 135 #[] (_root_.Go.Proofs.enters_of Tryz.func135 (by kernel_rfl) rfl) strg s w (fun W x _ => by
    refine (strange_any x W).mono ?_
    rintro e w' ⟨rfl, rfl⟩
    exact ⟨rfl, 0, rfl⟩)
  rw [idx_all] at h
  exact h
set_option maxRecDepth 1000000 in
set_option maxHeartbeats 1000000 in
theorem nameable_any (s : ByteArray) (w : World) : Calls Tryz.prog 94 #[.string s] w fun e w' => e = .returned (.bool (nbl s)) ∧ Below w.heap.size w w' := by
  have HCF := hide (contF_any s w)
  obtain ⟨al, hal⟩ : ∃ al, al = s.data.toList.all fun c => nby c.toNat := ⟨_, rfl⟩
  rw [← hal] at HCF
  have HAL := hide hal
  clear hal
  by_cases h0 : s.size = 0
  · have he : s = ⟨#[]⟩ := by
      obtain ⟨⟨l⟩⟩ := s
      have : l.length = 0 := h0
      rw [List.length_eq_zero_iff.1 this]
    have g0 : (s.toList == []) = true := by rw [he, ByteArray.toList_eq]; rfl
    have HK : Hid (nbl s = false) := by show _ = _; unfold nbl; rw [h0]; rfl
    clear h0 he
    go_enter Tryz.func94, Tryz.ntmps94
    go_wp2_with fail
    go_ret
    exact ⟨by rw [HK.out]; rfl, Below.refl _ _⟩
  · have he : s ≠ ⟨#[]⟩ := fun e => h0 (by rw [e]; rfl)
    have g0 : (s.toList == []) = false := by
      have h := str_no he
      rw [show (ByteArray.mk #[]).toList = [] by rw [ByteArray.toList_eq]] at h
      exact h
    by_cases h64 : s.size ≤ 64
    · have g1 : (s.size : Int) ≤ 64 := by omega
      have HK : Hid (nbl s = al) := by
        show _ = _
        unfold nbl
        rw [decide_eq_true (show 0 < s.size by omega), decide_eq_true h64, ← HAL.out]
        rfl
      clear h0 he h64 HAL
      go_enter Tryz.func94, Tryz.ntmps94
      go_wp2_with fail
      refine HCF.out.mono ?_
      rintro e w' ⟨rfl, hb⟩
      have HB := hide hb
      clear hb HCF
      go_wp2_with fail
      go_ret
      exact ⟨by rw [HK.out]; simp, HB.out⟩
    · have g1 : ¬ (s.size : Int) ≤ 64 := by omega
      have HK : Hid (nbl s = false) := by show _ = _; unfold nbl; rw [decide_eq_false h64, Bool.and_false, Bool.false_and]
      clear h0 he h64
      go_enter Tryz.func94, Tryz.ntmps94
      go_wp2_with fail
      go_ret
      exact ⟨by rw [HK.out]; rfl, Below.refl _ _⟩
end
section
open Go.RowKit Go
theorem emp_list : (ByteArray.mk #[]).toList = [] := by rw [ByteArray.toList_eq]
theorem emp_iff (s : ByteArray) : s.toList = [] ↔ s = ⟨#[]⟩ := by
  refine ⟨fun h => ?_, fun h => by rw [h, emp_list]⟩
  rw [ByteArray.toList_eq] at h
  obtain ⟨⟨l⟩⟩ := s
  simp only at h
  rw [h]
theorem len_beq {α : Type} (l : List α) : ((l.length : Int) == 0) = l.isEmpty := by
  cases l with
  | nil => rfl
  | cons x r =>
    rw [List.isEmpty_cons, beq_eq_false_iff_ne, List.length_cons]
    omega
set_option maxRecDepth 1000000 in
set_option maxHeartbeats 2000000 in
theorem tidy_1 (w : World) (t : Tp) (c : Array Value) (hc : Tpi w t c) (hk : t.k = 1) : Calls Tryz.prog 96 #[.agg c] w fun e w' => e = .returned (.bool (tdy t)) ∧ Below w.heap.size w w' := by
  obtain ⟨⟨vf, vc, vw, rfl, ⟨⟨af, cf, rfl, -, hff⟩, hfm⟩, ⟨⟨ac, cc, rfl, -, hcf⟩, hcm⟩, ⟨⟨aw, cw, rfl, -, -⟩, hwm, -⟩⟩, hbd⟩ := hc
  unfold tpc
  clear hff hfm hcf hcm hwm hbd
  obtain ⟨tn, tk, tlo, thi, ⟨rn, rz⟩, fs, cs, ws⟩ := t
  simp only at hk ⊢
  subst hk
  have HT : Hid (tdy ⟨tn, 1, tlo, thi, ⟨rn, rz⟩, fs, cs, ws⟩ = (decide (tlo = 0 ∧ thi = 0) && fs.isEmpty && cs.isEmpty && ws.isEmpty)) := by
    show _ = _
    simp [tdy]
  go_enter Tryz.func96, Tryz.ntmps96
  go_wp2_with fail
  all_goals
    go_ret
    refine ⟨?_, below_alloc4 w _⟩
    rw [HT.out]
    first
      | (simp_all; done)
      | (simp_all [len_beq]; done)
set_option maxRecDepth 1000000 in
set_option maxHeartbeats 2000000 in
theorem tidy_2 (w : World) (t : Tp) (c : Array Value) (hc : Tpi w t c) (hk : t.k = 2) : Calls Tryz.prog 96 #[.agg c] w fun e w' => e = .returned (.bool (tdy t)) ∧ Below w.heap.size w w' := by
  obtain ⟨⟨vf, vc, vw, rfl, ⟨⟨af, cf, rfl, -, hff⟩, hfm⟩, ⟨⟨ac, cc, rfl, -, hcf⟩, hcm⟩, ⟨⟨aw, cw, rfl, -, -⟩, hwm, -⟩⟩, hbd⟩ := hc
  unfold tpc
  clear hff hfm hcf hcm hwm hbd
  obtain ⟨tn, tk, tlo, thi, ⟨rn, rz⟩, fs, cs, ws⟩ := t
  simp only at hk ⊢
  subst hk
  have HT : Hid (tdy ⟨tn, 2, tlo, thi, ⟨rn, rz⟩, fs, cs, ws⟩ = (decide (rn = ⟨#[]⟩ ∧ rz = false) && fs.isEmpty && cs.isEmpty && ws.isEmpty)) := by
    show _ = _
    simp [tdy]
  go_enter Tryz.func96, Tryz.ntmps96
  go_wp2_with fail
  all_goals
    go_ret
    refine ⟨?_, below_alloc4 w _⟩
    rw [HT.out]
    first
      | (simp_all; done)
      | (simp_all [len_beq]; done)
      | (simp_all [emp_iff]; done)
      | (simp_all [len_beq, emp_iff]; done)
set_option maxRecDepth 1000000 in
set_option maxHeartbeats 2000000 in
theorem tidy_3 (w : World) (t : Tp) (c : Array Value) (hc : Tpi w t c) (hk : t.k = 3) : Calls Tryz.prog 96 #[.agg c] w fun e w' => e = .returned (.bool (tdy t)) ∧ Below w.heap.size w w' := by
  obtain ⟨⟨vf, vc, vw, rfl, ⟨⟨af, cf, rfl, -, hff⟩, hfm⟩, ⟨⟨ac, cc, rfl, -, hcf⟩, hcm⟩, ⟨⟨aw, cw, rfl, -, -⟩, hwm, -⟩⟩, hbd⟩ := hc
  unfold tpc
  clear hff hfm hcf hcm hwm hbd
  obtain ⟨tn, tk, tlo, thi, ⟨rn, rz⟩, fs, cs, ws⟩ := t
  simp only at hk ⊢
  subst hk
  have HT : Hid (tdy ⟨tn, 3, tlo, thi, ⟨rn, rz⟩, fs, cs, ws⟩ = (fs.isEmpty && cs.isEmpty && ws.isEmpty)) := by
    show _ = _
    simp [tdy]
  go_enter Tryz.func96, Tryz.ntmps96
  go_wp2_with fail
  all_goals
    go_ret
    refine ⟨?_, below_alloc4 w _⟩
    rw [HT.out]
    first
      | (simp_all; done)
      | (simp_all [len_beq]; done)
set_option maxRecDepth 1000000 in
set_option maxHeartbeats 2000000 in
theorem tidy_4 (w : World) (t : Tp) (c : Array Value) (hc : Tpi w t c) (hk : t.k = 4) : Calls Tryz.prog 96 #[.agg c] w fun e w' => e = .returned (.bool (tdy t)) ∧ Below w.heap.size w w' := by
  obtain ⟨⟨vf, vc, vw, rfl, ⟨⟨af, cf, rfl, -, hff⟩, hfm⟩, ⟨⟨ac, cc, rfl, -, hcf⟩, hcm⟩, ⟨⟨aw, cw, rfl, -, -⟩, hwm, -⟩⟩, hbd⟩ := hc
  unfold tpc
  clear hff hfm hcf hcm hwm hbd
  obtain ⟨tn, tk, tlo, thi, ⟨rn, rz⟩, fs, cs, ws⟩ := t
  simp only at hk ⊢
  subst hk
  have HT : Hid (tdy ⟨tn, 4, tlo, thi, ⟨rn, rz⟩, fs, cs, ws⟩ = (fs.isEmpty && cs.isEmpty && ws.isEmpty)) := by
    show _ = _
    simp [tdy]
  go_enter Tryz.func96, Tryz.ntmps96
  go_wp2_with fail
  all_goals
    go_ret
    refine ⟨?_, below_alloc4 w _⟩
    rw [HT.out]
    first
      | (simp_all; done)
      | (simp_all [len_beq]; done)
set_option maxRecDepth 1000000 in
set_option maxHeartbeats 2000000 in
theorem tidy_5 (w : World) (t : Tp) (c : Array Value) (hc : Tpi w t c) (hk : t.k = 5) : Calls Tryz.prog 96 #[.agg c] w fun e w' => e = .returned (.bool (tdy t)) ∧ Below w.heap.size w w' := by
  obtain ⟨⟨vf, vc, vw, rfl, ⟨⟨af, cf, rfl, -, hff⟩, hfm⟩, ⟨⟨ac, cc, rfl, -, hcf⟩, hcm⟩, ⟨⟨aw, cw, rfl, -, -⟩, hwm, -⟩⟩, hbd⟩ := hc
  unfold tpc
  clear hff hfm hcf hcm hwm hbd
  obtain ⟨tn, tk, tlo, thi, ⟨rn, rz⟩, fs, cs, ws⟩ := t
  simp only at hk ⊢
  subst hk
  have HT : Hid (tdy ⟨tn, 5, tlo, thi, ⟨rn, rz⟩, fs, cs, ws⟩ = (decide (tlo = 0 ∧ thi = 0) && decide (rn = ⟨#[]⟩ ∧ rz = false) && cs.isEmpty && ws.isEmpty)) := by
    show _ = _
    simp [tdy]
  go_enter Tryz.func96, Tryz.ntmps96
  go_wp2_with fail
  all_goals
    go_ret
    refine ⟨?_, below_alloc4 w _⟩
    rw [HT.out]
    first
      | (simp_all; done)
      | (simp_all [len_beq]; done)
      | (simp_all [emp_iff]; done)
      | (simp_all [len_beq, emp_iff]; done)
set_option maxRecDepth 1000000 in
set_option maxHeartbeats 2000000 in
theorem tidy_6 (w : World) (t : Tp) (c : Array Value) (hc : Tpi w t c) (hk : t.k = 6) : Calls Tryz.prog 96 #[.agg c] w fun e w' => e = .returned (.bool (tdy t)) ∧ Below w.heap.size w w' := by
  obtain ⟨⟨vf, vc, vw, rfl, ⟨⟨af, cf, rfl, -, hff⟩, hfm⟩, ⟨⟨ac, cc, rfl, -, hcf⟩, hcm⟩, ⟨⟨aw, cw, rfl, -, -⟩, hwm, -⟩⟩, hbd⟩ := hc
  unfold tpc
  clear hff hfm hcf hcm hwm hbd
  obtain ⟨tn, tk, tlo, thi, ⟨rn, rz⟩, fs, cs, ws⟩ := t
  simp only at hk ⊢
  subst hk
  have HT : Hid (tdy ⟨tn, 6, tlo, thi, ⟨rn, rz⟩, fs, cs, ws⟩ = (decide (tlo = 0 ∧ thi = 0) && decide (rn = ⟨#[]⟩ ∧ rz = false) && cs.isEmpty && ws.isEmpty)) := by
    show _ = _
    simp [tdy]
  go_enter Tryz.func96, Tryz.ntmps96
  go_wp2_with fail
  all_goals
    go_ret
    refine ⟨?_, below_alloc4 w _⟩
    rw [HT.out]
    first
      | (simp_all; done)
      | (simp_all [len_beq]; done)
      | (simp_all [emp_iff]; done)
      | (simp_all [len_beq, emp_iff]; done)
set_option maxRecDepth 1000000 in
set_option maxHeartbeats 2000000 in
theorem tidy_7 (w : World) (t : Tp) (c : Array Value) (hc : Tpi w t c) (hk : t.k = 7) : Calls Tryz.prog 96 #[.agg c] w fun e w' => e = .returned (.bool (tdy t)) ∧ Below w.heap.size w w' := by
  obtain ⟨⟨vf, vc, vw, rfl, ⟨⟨af, cf, rfl, -, hff⟩, hfm⟩, ⟨⟨ac, cc, rfl, -, hcf⟩, hcm⟩, ⟨⟨aw, cw, rfl, -, -⟩, hwm, -⟩⟩, hbd⟩ := hc
  unfold tpc
  clear hff hfm hcf hcm hwm hbd
  obtain ⟨tn, tk, tlo, thi, ⟨rn, rz⟩, fs, cs, ws⟩ := t
  simp only at hk ⊢
  subst hk
  have HT : Hid (tdy ⟨tn, 7, tlo, thi, ⟨rn, rz⟩, fs, cs, ws⟩ = (decide (tlo = 0 ∧ thi = 0) && decide (rn = ⟨#[]⟩ ∧ rz = false) && fs.isEmpty && ws.isEmpty)) := by
    show _ = _
    simp [tdy]
  go_enter Tryz.func96, Tryz.ntmps96
  go_wp2_with fail
  all_goals
    go_ret
    refine ⟨?_, below_alloc4 w _⟩
    rw [HT.out]
    first
      | (simp_all; done)
      | (simp_all [len_beq]; done)
      | (simp_all [emp_iff]; done)
      | (simp_all [len_beq, emp_iff]; done)
set_option maxRecDepth 1000000 in
set_option maxHeartbeats 2000000 in
theorem tidy_8 (w : World) (t : Tp) (c : Array Value) (hc : Tpi w t c) (hk : t.k = 8) : Calls Tryz.prog 96 #[.agg c] w fun e w' => e = .returned (.bool (tdy t)) ∧ Below w.heap.size w w' := by
  obtain ⟨⟨vf, vc, vw, rfl, ⟨⟨af, cf, rfl, -, hff⟩, hfm⟩, ⟨⟨ac, cc, rfl, -, hcf⟩, hcm⟩, ⟨⟨aw, cw, rfl, -, -⟩, hwm, -⟩⟩, hbd⟩ := hc
  unfold tpc
  clear hff hfm hcf hcm hwm hbd
  obtain ⟨tn, tk, tlo, thi, ⟨rn, rz⟩, fs, cs, ws⟩ := t
  simp only at hk ⊢
  subst hk
  have HT : Hid (tdy ⟨tn, 8, tlo, thi, ⟨rn, rz⟩, fs, cs, ws⟩ = (decide (tlo = 0 ∧ thi = 0) && decide (rn = ⟨#[]⟩ ∧ rz = false) && fs.isEmpty && ws.isEmpty)) := by
    show _ = _
    simp [tdy]
  go_enter Tryz.func96, Tryz.ntmps96
  go_wp2_with fail
  all_goals
    go_ret
    refine ⟨?_, below_alloc4 w _⟩
    rw [HT.out]
    first
      | (simp_all; done)
      | (simp_all [len_beq]; done)
      | (simp_all [emp_iff]; done)
      | (simp_all [len_beq, emp_iff]; done)
set_option maxRecDepth 1000000 in
set_option maxHeartbeats 2000000 in
theorem tidy_9 (w : World) (t : Tp) (c : Array Value) (hc : Tpi w t c) (hk : t.k = 9) : Calls Tryz.prog 96 #[.agg c] w fun e w' => e = .returned (.bool (tdy t)) ∧ Below w.heap.size w w' := by
  obtain ⟨⟨vf, vc, vw, rfl, ⟨⟨af, cf, rfl, -, hff⟩, hfm⟩, ⟨⟨ac, cc, rfl, -, hcf⟩, hcm⟩, ⟨⟨aw, cw, rfl, -, -⟩, hwm, -⟩⟩, hbd⟩ := hc
  unfold tpc
  clear hff hfm hcf hcm hwm hbd
  obtain ⟨tn, tk, tlo, thi, ⟨rn, rz⟩, fs, cs, ws⟩ := t
  simp only at hk ⊢
  subst hk
  have HT : Hid (tdy ⟨tn, 9, tlo, thi, ⟨rn, rz⟩, fs, cs, ws⟩ = (decide (tlo = 0 ∧ thi = 0) && decide (rn = ⟨#[]⟩ ∧ rz = false) && fs.isEmpty && cs.isEmpty)) := by
    show _ = _
    simp [tdy]
  go_enter Tryz.func96, Tryz.ntmps96
  go_wp2_with fail
  all_goals
    go_ret
    refine ⟨?_, below_alloc4 w _⟩
    rw [HT.out]
    first
      | (simp_all; done)
      | (simp_all [emp_iff]; done)
      | (simp_all [len_beq, emp_iff]; done)
set_option maxRecDepth 1000000 in
set_option maxHeartbeats 2000000 in
theorem tidy_no (w : World) (t : Tp) (c : Array Value) (hc : Tpi w t c) (hk : ¬ (1 ≤ t.k ∧ t.k ≤ 9)) : Calls Tryz.prog 96 #[.agg c] w fun e w' => e = .returned (.bool (tdy t)) ∧ Below w.heap.size w w' := by
  obtain ⟨⟨vf, vc, vw, rfl, ⟨⟨af, cf, rfl, -, hff⟩, hfm⟩, ⟨⟨ac, cc, rfl, -, hcf⟩, hcm⟩, ⟨⟨aw, cw, rfl, -, -⟩, hwm, -⟩⟩, hbd⟩ := hc
  unfold tpc
  clear hff hfm hcf hcm hwm hbd
  have HT : Hid (tdy t = false) := by
    show _ = _
    unfold tdy
    simp only
    rw [decide_eq_false hk]
    rfl
  have g1 : (t.k == 1) = false := beq_eq_false_iff_ne.2 (by omega)
  have g2 : (t.k == 2) = false := beq_eq_false_iff_ne.2 (by omega)
  have g3 : (t.k == 3) = false := beq_eq_false_iff_ne.2 (by omega)
  have g4 : (t.k == 4) = false := beq_eq_false_iff_ne.2 (by omega)
  have g5 : (t.k == 5) = false := beq_eq_false_iff_ne.2 (by omega)
  have g6 : (t.k == 6) = false := beq_eq_false_iff_ne.2 (by omega)
  have g7 : (t.k == 7) = false := beq_eq_false_iff_ne.2 (by omega)
  have g8 : (t.k == 8) = false := beq_eq_false_iff_ne.2 (by omega)
  have g9 : (t.k == 9) = false := beq_eq_false_iff_ne.2 (by omega)
  clear hk
  go_enter Tryz.func96, Tryz.ntmps96
  go_wp2_with fail
  go_ret
  exact ⟨by rw [HT.out]; rfl, below_alloc4 w _⟩
theorem tidy_any (w : World) (t : Tp) (c : Array Value) (hc : Tpi w t c) : Calls Tryz.prog 96 #[.agg c] w fun e w' => e = .returned (.bool (tdy t)) ∧ Below w.heap.size w w' := by
  by_cases hk : 1 ≤ t.k ∧ t.k ≤ 9
  · rcases (show t.k = 1 ∨ t.k = 2 ∨ t.k = 3 ∨ t.k = 4 ∨ t.k = 5 ∨ t.k = 6 ∨ t.k = 7 ∨ t.k = 8 ∨ t.k = 9 by omega) with h | h | h | h | h | h | h | h | h
    · exact tidy_1 w t c hc h
    · exact tidy_2 w t c hc h
    · exact tidy_3 w t c hc h
    · exact tidy_4 w t c hc h
    · exact tidy_5 w t c hc h
    · exact tidy_6 w t c hc h
    · exact tidy_7 w t c hc h
    · exact tidy_8 w t c hc h
    · exact tidy_9 w t c hc h
  · exact tidy_no w t c hc hk
end
section
open Go.RowKit Go
set_option maxRecDepth 1000000 in
set_option maxHeartbeats 1000000 in
theorem indexLost_any (w : World) (v : Value) (xs : List Rf) (hv : RSl w v xs) (vt : Value) (B : Nat) (p : Nat → Bool) (I : Nat → World → Prop) (h0 : I 0 w) (hB : ∀ i wx, I i wx → RSl wx v xs) (hC : ∀ i x wx, xs[i]? = some x → I i wx → Calls Tryz.prog 99 #[.agg #[vt, .map (some B)], .agg #[.string x.n, .bool x.z]] wx fun e w' => e = .returned (.bool (p i)) ∧ I (i + 1) w') : Calls Tryz.prog 137 #[v, .func (.func 99) #[.agg #[vt, .map (some B)]] #[]] w fun e w' => ∃ r : Int, e = .returned (.int .i64 r) ∧ Hid (decide (0 ≤ r) = (List.range xs.length).any p ∧ ∃ i, I i w') := by
  have HH0 := hide h0
  have HB := hide hB
  have HC := hide hC
  have hmax := hv.max
  obtain ⟨⟨a, cap, rfl, _, hform⟩, _⟩ := hv
  clear h0 hB hC hform
  have HIT := hide infoRf
  have HAT : Hid (∀ w, (isAgg 65).run Tryz.prog w = .ok true w) := aggRf
  go_enter Tryz.func137, Tryz.ntmps137
  go_wp2_with fail
  go_loopw [8] (fun ii wx => ∃ i : Nat, i ≤ xs.length ∧ ii = .int .i64 (i : Nat) ∧ Hid (∀ j, j < i → p j = false) ∧ Hid (I i wx)) (fun ii _ => xs.length - (intOf ii).toNat)
  case atStart => exact ⟨0, by omega, rfl, fun j hj => absurd hj (by omega), HH0⟩
  case round =>
    obtain ⟨i, hi, rfl, HN, HI⟩ := hrel
    by_cases hlt : i < xs.length
    · as_aux_lemma =>
      have g1 : (i : Int) < (xs.length : Int) := by omega
      obtain ⟨x, hx⟩ : ∃ x, xs[i]? = some x := ⟨xs[i], List.getElem?_eq_getElem hlt⟩
      have hsl := HB.out i wr HI.out
      obtain ⟨⟨a', cap', hv', _, hf'⟩, _⟩ := hsl
      injection hv' with e1 _ e3
      subst e1
      obtain ⟨b, off, rfl, hcc⟩ := hf'.resolve_left (fun h => by rw [h] at hlt; simp at hlt)
      clear e3
      obtain ⟨c, ⟨rfl, _⟩, hcell⟩ := hcc i x hx
      unfold rfc at hcell
      have HCL : Hid (∀ j u, (#[.string x.n, .bool x.z] : Array Value)[j]? = some u → wr.cell? ⟨b, off + i * 2 + j, none⟩ = some u) := hcell
      clear hcell
      have HCA := hide (HC.out i x wr hx HI.out)
      clear hcc hx HC
      go_wp2_with (refine wpList_aggAt rfl rfl HIT.out HAT.out b (off + i * 2) #[.string x.n, .bool x.z] rfl rfl HCL.out ?_)
      refine HCA.out.mono ?_
      rintro e w1 ⟨rfl, hb1⟩
      have HI1 := hide hb1
      clear hb1 HCA
      rcases Bool.eq_false_or_eq_true (p i) with hr | hr
      · have HA : Hid ((List.range xs.length).any p = true) := List.any_eq_true.2 ⟨i, List.mem_range.2 hlt, hr⟩
        rw [hr]
        go_wp2_with fail
        go_ret
        exact ⟨_, rfl, by rw [HA.out, decide_eq_true (by omega)], _, HI1.out⟩
      · have HN2 : Hid (∀ j, j < i + 1 → p j = false) := fun j hj => by
          by_cases hji : j = i
          · rw [hji]; exact hr
          · exact HN.out j (by omega)
        rw [hr]
        clear hr HN
        go_wp2_with fail
        go_roundw
        case rel => exact ⟨i + 1, by omega, by go_num, HN2, HI1⟩
        case measure => simp [intOf]; omega
    · as_aux_lemma =>
      have g1 : ¬ (i : Int) < (xs.length : Int) := by omega
      have HA : Hid ((List.range xs.length).any p = false) := by
        show _ = _
        rw [List.any_eq_false]
        intro j hj
        rw [HN.out j (by have := List.mem_range.1 hj; omega)]
        simp
      go_wp2_with fail
      go_ret
      exact ⟨_, rfl, by rw [HA.out]; rfl, _, HI.out⟩
set_option maxRecDepth 1000000 in
theorem containsLost_any (w : World) (v : Value) (xs : List Rf) (hv : RSl w v xs) (vt : Value) (B : Nat) (p : Nat → Bool) (I : Nat → World → Prop) (h0 : I 0 w) (hB : ∀ i wx, I i wx → RSl wx v xs) (hC : ∀ i x wx, xs[i]? = some x → I i wx → Calls Tryz.prog 99 #[.agg #[vt, .map (some B)], .agg #[.string x.n, .bool x.z]] wx fun e w' => e = .returned (.bool (p i)) ∧ I (i + 1) w') : Calls Tryz.prog 97 #[v, .func (.func 99) #[.agg #[vt, .map (some B)]] #[]] w fun e w' => e = .returned (.bool ((List.range xs.length).any p)) ∧ Hid (∃ i, I i w') := by
  have HCA := hide (indexLost_any w v xs hv vt B p I h0 hB hC)
  obtain ⟨⟨a, cap, rfl, _, _⟩, _⟩ := hv
  clear h0 hB hC
  go_enter Tryz.func97, Tryz.ntmps97
  go_wp2_with fail
  refine HCA.out.mono ?_
  rintro e w1 ⟨r, rfl, h⟩
  have HR := hide h.out.1
  have HI := hide h.out.2
  clear h HCA
  go_wp2_with fail
  go_ret
  exact ⟨by rw [← HR.out]; rfl, HI⟩
set_option maxRecDepth 1000000 in
set_option maxHeartbeats 1000000 in
theorem indexNull_any (w : World) (v : Value) (xs : List Rf) (hv : RSl w v xs) (vt : Value) (B : Nat) (p : Nat → Bool) (I : Nat → World → Prop) (h0 : I 0 w) (hB : ∀ i wx, I i wx → RSl wx v xs) (hC : ∀ i x wx, xs[i]? = some x → I i wx → Calls Tryz.prog 102 #[.agg #[vt, .map (some B)], .agg #[.string x.n, .bool x.z]] wx fun e w' => e = .returned (.bool (p i)) ∧ I (i + 1) w') : Calls Tryz.prog 137 #[v, .func (.func 102) #[.agg #[vt, .map (some B)]] #[]] w fun e w' => ∃ r : Int, e = .returned (.int .i64 r) ∧ Hid (decide (0 ≤ r) = (List.range xs.length).any p ∧ ∃ i, I i w') := by
  have HH0 := hide h0
  have HB := hide hB
  have HC := hide hC
  have hmax := hv.max
  obtain ⟨⟨a, cap, rfl, _, hform⟩, _⟩ := hv
  clear h0 hB hC hform
  have HIT := hide infoRf
  have HAT : Hid (∀ w, (isAgg 65).run Tryz.prog w = .ok true w) := aggRf
  go_enter Tryz.func137, Tryz.ntmps137
  go_wp2_with fail
  go_loopw [8] (fun ii wx => ∃ i : Nat, i ≤ xs.length ∧ ii = .int .i64 (i : Nat) ∧ Hid (∀ j, j < i → p j = false) ∧ Hid (I i wx)) (fun ii _ => xs.length - (intOf ii).toNat)
  case atStart => exact ⟨0, by omega, rfl, fun j hj => absurd hj (by omega), HH0⟩
  case round =>
    obtain ⟨i, hi, rfl, HN, HI⟩ := hrel
    by_cases hlt : i < xs.length
    · as_aux_lemma =>
      have g1 : (i : Int) < (xs.length : Int) := by omega
      obtain ⟨x, hx⟩ : ∃ x, xs[i]? = some x := ⟨xs[i], List.getElem?_eq_getElem hlt⟩
      have hsl := HB.out i wr HI.out
      obtain ⟨⟨a', cap', hv', _, hf'⟩, _⟩ := hsl
      injection hv' with e1 _ e3
      subst e1
      obtain ⟨b, off, rfl, hcc⟩ := hf'.resolve_left (fun h => by rw [h] at hlt; simp at hlt)
      clear e3
      obtain ⟨c, ⟨rfl, _⟩, hcell⟩ := hcc i x hx
      unfold rfc at hcell
      have HCL : Hid (∀ j u, (#[.string x.n, .bool x.z] : Array Value)[j]? = some u → wr.cell? ⟨b, off + i * 2 + j, none⟩ = some u) := hcell
      clear hcell
      have HCA := hide (HC.out i x wr hx HI.out)
      clear hcc hx HC
      go_wp2_with (refine wpList_aggAt rfl rfl HIT.out HAT.out b (off + i * 2) #[.string x.n, .bool x.z] rfl rfl HCL.out ?_)
      refine HCA.out.mono ?_
      rintro e w1 ⟨rfl, hb1⟩
      have HI1 := hide hb1
      clear hb1 HCA
      rcases Bool.eq_false_or_eq_true (p i) with hr | hr
      · have HA : Hid ((List.range xs.length).any p = true) := List.any_eq_true.2 ⟨i, List.mem_range.2 hlt, hr⟩
        rw [hr]
        go_wp2_with fail
        go_ret
        exact ⟨_, rfl, by rw [HA.out, decide_eq_true (by omega)], _, HI1.out⟩
      · have HN2 : Hid (∀ j, j < i + 1 → p j = false) := fun j hj => by
          by_cases hji : j = i
          · rw [hji]; exact hr
          · exact HN.out j (by omega)
        rw [hr]
        clear hr HN
        go_wp2_with fail
        go_roundw
        case rel => exact ⟨i + 1, by omega, by go_num, HN2, HI1⟩
        case measure => simp [intOf]; omega
    · as_aux_lemma =>
      have g1 : ¬ (i : Int) < (xs.length : Int) := by omega
      have HA : Hid ((List.range xs.length).any p = false) := by
        show _ = _
        rw [List.any_eq_false]
        intro j hj
        rw [HN.out j (by have := List.mem_range.1 hj; omega)]
        simp
      go_wp2_with fail
      go_ret
      exact ⟨_, rfl, by rw [HA.out]; rfl, _, HI.out⟩
set_option maxRecDepth 1000000 in
theorem containsNull_any (w : World) (v : Value) (xs : List Rf) (hv : RSl w v xs) (vt : Value) (B : Nat) (p : Nat → Bool) (I : Nat → World → Prop) (h0 : I 0 w) (hB : ∀ i wx, I i wx → RSl wx v xs) (hC : ∀ i x wx, xs[i]? = some x → I i wx → Calls Tryz.prog 102 #[.agg #[vt, .map (some B)], .agg #[.string x.n, .bool x.z]] wx fun e w' => e = .returned (.bool (p i)) ∧ I (i + 1) w') : Calls Tryz.prog 97 #[v, .func (.func 102) #[.agg #[vt, .map (some B)]] #[]] w fun e w' => e = .returned (.bool ((List.range xs.length).any p)) ∧ Hid (∃ i, I i w') := by
  have HCA := hide (indexNull_any w v xs hv vt B p I h0 hB hC)
  obtain ⟨⟨a, cap, rfl, _, _⟩, _⟩ := hv
  clear h0 hB hC
  go_enter Tryz.func97, Tryz.ntmps97
  go_wp2_with fail
  refine HCA.out.mono ?_
  rintro e w1 ⟨r, rfl, h⟩
  have HR := hide h.out.1
  have HI := hide h.out.2
  clear h HCA
  go_wp2_with fail
  go_ret
  exact ⟨by rw [← HR.out]; rfl, HI⟩
set_option maxRecDepth 1000000 in
set_option maxHeartbeats 1000000 in
theorem indexKeys_any (w : World) (v : Value) (xs : List Cz) (hv : CSl w v xs) (q : Nat) (p : Nat → Bool) (I : Nat → World → Prop) (h0 : I 0 w) (hB : ∀ i wx, I i wx → CSl wx v xs) (hC : ∀ i x wx, xs[i]? = some x → I i wx → Calls Tryz.prog 141 #[.agg #[.string x.k, .string x.n], .pointer (some ⟨q, 0, none⟩)] wx fun e w' => e = .returned (.bool (p i)) ∧ I (i + 1) w') : Calls Tryz.prog 173 #[v, .func (.func 141) #[] #[.pointer (some ⟨q, 0, none⟩)]] w fun e w' => ∃ r : Int, e = .returned (.int .i64 r) ∧ Hid (decide (0 ≤ r) = (List.range xs.length).any p ∧ ∃ i, I i w') := by
  have HH0 := hide h0
  have HB := hide hB
  have HC := hide hC
  have hmax := hv.max
  obtain ⟨⟨a, cap, rfl, _, hform⟩, _⟩ := hv
  clear h0 hB hC hform
  have HIT := hide infoCz
  have HAT : Hid (∀ w, (isAgg 114).run Tryz.prog w = .ok true w) := aggCz
  go_enter Tryz.func173, Tryz.ntmps173
  go_wp2_with fail
  go_loopw [8] (fun ii wx => ∃ i : Nat, i ≤ xs.length ∧ ii = .int .i64 (i : Nat) ∧ Hid (∀ j, j < i → p j = false) ∧ Hid (I i wx)) (fun ii _ => xs.length - (intOf ii).toNat)
  case atStart => exact ⟨0, by omega, rfl, fun j hj => absurd hj (by omega), HH0⟩
  case round =>
    obtain ⟨i, hi, rfl, HN, HI⟩ := hrel
    by_cases hlt : i < xs.length
    · as_aux_lemma =>
      have g1 : (i : Int) < (xs.length : Int) := by omega
      obtain ⟨x, hx⟩ : ∃ x, xs[i]? = some x := ⟨xs[i], List.getElem?_eq_getElem hlt⟩
      have hsl := HB.out i wr HI.out
      obtain ⟨⟨a', cap', hv', _, hf'⟩, _⟩ := hsl
      injection hv' with e1 _ e3
      subst e1
      obtain ⟨b, off, rfl, hcc⟩ := hf'.resolve_left (fun h => by rw [h] at hlt; simp at hlt)
      clear e3
      obtain ⟨c, ⟨rfl, _⟩, hcell⟩ := hcc i x hx
      unfold czc at hcell
      have HCL : Hid (∀ j u, (#[.string x.k, .string x.n] : Array Value)[j]? = some u → wr.cell? ⟨b, off + i * 2 + j, none⟩ = some u) := hcell
      clear hcell
      have HCA := hide (HC.out i x wr hx HI.out)
      clear hcc hx HC
      go_wp2_with (refine wpList_aggAt rfl rfl HIT.out HAT.out b (off + i * 2) #[.string x.k, .string x.n] rfl rfl HCL.out ?_)
      refine HCA.out.mono ?_
      rintro e w1 ⟨rfl, hb1⟩
      have HI1 := hide hb1
      clear hb1 HCA
      rcases Bool.eq_false_or_eq_true (p i) with hr | hr
      · have HA : Hid ((List.range xs.length).any p = true) := List.any_eq_true.2 ⟨i, List.mem_range.2 hlt, hr⟩
        rw [hr]
        go_wp2_with fail
        go_ret
        exact ⟨_, rfl, by rw [HA.out, decide_eq_true (by omega)], _, HI1.out⟩
      · have HN2 : Hid (∀ j, j < i + 1 → p j = false) := fun j hj => by
          by_cases hji : j = i
          · rw [hji]; exact hr
          · exact HN.out j (by omega)
        rw [hr]
        clear hr HN
        go_wp2_with fail
        go_roundw
        case rel => exact ⟨i + 1, by omega, by go_num, HN2, HI1⟩
        case measure => simp [intOf]; omega
    · as_aux_lemma =>
      have g1 : ¬ (i : Int) < (xs.length : Int) := by omega
      have HA : Hid ((List.range xs.length).any p = false) := by
        show _ = _
        rw [List.any_eq_false]
        intro j hj
        rw [HN.out j (by have := List.mem_range.1 hj; omega)]
        simp
      go_wp2_with fail
      go_ret
      exact ⟨_, rfl, by rw [HA.out]; rfl, _, HI.out⟩
set_option maxRecDepth 1000000 in
theorem containsKeys_any (w : World) (v : Value) (xs : List Cz) (hv : CSl w v xs) (q : Nat) (p : Nat → Bool) (I : Nat → World → Prop) (h0 : I 0 w) (hB : ∀ i wx, I i wx → CSl wx v xs) (hC : ∀ i x wx, xs[i]? = some x → I i wx → Calls Tryz.prog 141 #[.agg #[.string x.k, .string x.n], .pointer (some ⟨q, 0, none⟩)] wx fun e w' => e = .returned (.bool (p i)) ∧ I (i + 1) w') : Calls Tryz.prog 140 #[v, .func (.func 141) #[] #[.pointer (some ⟨q, 0, none⟩)]] w fun e w' => e = .returned (.bool ((List.range xs.length).any p)) ∧ Hid (∃ i, I i w') := by
  have HCA := hide (indexKeys_any w v xs hv q p I h0 hB hC)
  obtain ⟨⟨a, cap, rfl, _, _⟩, _⟩ := hv
  clear h0 hB hC
  go_enter Tryz.func140, Tryz.ntmps140
  go_wp2_with fail
  refine HCA.out.mono ?_
  rintro e w1 ⟨r, rfl, h⟩
  have HR := hide h.out.1
  have HI := hide h.out.2
  clear h HCA
  go_wp2_with fail
  go_ret
  exact ⟨by rw [← HR.out]; rfl, HI⟩
set_option maxRecDepth 1000000 in
set_option maxHeartbeats 1000000 in
theorem indexNoKey_any (w : World) (v : Value) (xs : List Cz) (hv : CSl w v xs)  (p : Nat → Bool) (I : Nat → World → Prop) (h0 : I 0 w) (hB : ∀ i wx, I i wx → CSl wx v xs) (hC : ∀ i x wx, xs[i]? = some x → I i wx → Calls Tryz.prog 142 #[.agg #[.string x.k, .string x.n]] wx fun e w' => e = .returned (.bool (p i)) ∧ I (i + 1) w') : Calls Tryz.prog 173 #[v, .func (.func 142) #[] #[]] w fun e w' => ∃ r : Int, e = .returned (.int .i64 r) ∧ Hid (decide (0 ≤ r) = (List.range xs.length).any p ∧ ∃ i, I i w') := by
  have HH0 := hide h0
  have HB := hide hB
  have HC := hide hC
  have hmax := hv.max
  obtain ⟨⟨a, cap, rfl, _, hform⟩, _⟩ := hv
  clear h0 hB hC hform
  have HIT := hide infoCz
  have HAT : Hid (∀ w, (isAgg 114).run Tryz.prog w = .ok true w) := aggCz
  go_enter Tryz.func173, Tryz.ntmps173
  go_wp2_with fail
  go_loopw [8] (fun ii wx => ∃ i : Nat, i ≤ xs.length ∧ ii = .int .i64 (i : Nat) ∧ Hid (∀ j, j < i → p j = false) ∧ Hid (I i wx)) (fun ii _ => xs.length - (intOf ii).toNat)
  case atStart => exact ⟨0, by omega, rfl, fun j hj => absurd hj (by omega), HH0⟩
  case round =>
    obtain ⟨i, hi, rfl, HN, HI⟩ := hrel
    by_cases hlt : i < xs.length
    · as_aux_lemma =>
      have g1 : (i : Int) < (xs.length : Int) := by omega
      obtain ⟨x, hx⟩ : ∃ x, xs[i]? = some x := ⟨xs[i], List.getElem?_eq_getElem hlt⟩
      have hsl := HB.out i wr HI.out
      obtain ⟨⟨a', cap', hv', _, hf'⟩, _⟩ := hsl
      injection hv' with e1 _ e3
      subst e1
      obtain ⟨b, off, rfl, hcc⟩ := hf'.resolve_left (fun h => by rw [h] at hlt; simp at hlt)
      clear e3
      obtain ⟨c, ⟨rfl, _⟩, hcell⟩ := hcc i x hx
      unfold czc at hcell
      have HCL : Hid (∀ j u, (#[.string x.k, .string x.n] : Array Value)[j]? = some u → wr.cell? ⟨b, off + i * 2 + j, none⟩ = some u) := hcell
      clear hcell
      have HCA := hide (HC.out i x wr hx HI.out)
      clear hcc hx HC
      go_wp2_with (refine wpList_aggAt rfl rfl HIT.out HAT.out b (off + i * 2) #[.string x.k, .string x.n] rfl rfl HCL.out ?_)
      refine HCA.out.mono ?_
      rintro e w1 ⟨rfl, hb1⟩
      have HI1 := hide hb1
      clear hb1 HCA
      rcases Bool.eq_false_or_eq_true (p i) with hr | hr
      · have HA : Hid ((List.range xs.length).any p = true) := List.any_eq_true.2 ⟨i, List.mem_range.2 hlt, hr⟩
        rw [hr]
        go_wp2_with fail
        go_ret
        exact ⟨_, rfl, by rw [HA.out, decide_eq_true (by omega)], _, HI1.out⟩
      · have HN2 : Hid (∀ j, j < i + 1 → p j = false) := fun j hj => by
          by_cases hji : j = i
          · rw [hji]; exact hr
          · exact HN.out j (by omega)
        rw [hr]
        clear hr HN
        go_wp2_with fail
        go_roundw
        case rel => exact ⟨i + 1, by omega, by go_num, HN2, HI1⟩
        case measure => simp [intOf]; omega
    · as_aux_lemma =>
      have g1 : ¬ (i : Int) < (xs.length : Int) := by omega
      have HA : Hid ((List.range xs.length).any p = false) := by
        show _ = _
        rw [List.any_eq_false]
        intro j hj
        rw [HN.out j (by have := List.mem_range.1 hj; omega)]
        simp
      go_wp2_with fail
      go_ret
      exact ⟨_, rfl, by rw [HA.out]; rfl, _, HI.out⟩
set_option maxRecDepth 1000000 in
theorem containsNoKey_any (w : World) (v : Value) (xs : List Cz) (hv : CSl w v xs)  (p : Nat → Bool) (I : Nat → World → Prop) (h0 : I 0 w) (hB : ∀ i wx, I i wx → CSl wx v xs) (hC : ∀ i x wx, xs[i]? = some x → I i wx → Calls Tryz.prog 142 #[.agg #[.string x.k, .string x.n]] wx fun e w' => e = .returned (.bool (p i)) ∧ I (i + 1) w') : Calls Tryz.prog 140 #[v, .func (.func 142) #[] #[]] w fun e w' => e = .returned (.bool ((List.range xs.length).any p)) ∧ Hid (∃ i, I i w') := by
  have HCA := hide (indexNoKey_any w v xs hv p I h0 hB hC)
  obtain ⟨⟨a, cap, rfl, _, _⟩, _⟩ := hv
  clear h0 hB hC
  go_enter Tryz.func140, Tryz.ntmps140
  go_wp2_with fail
  refine HCA.out.mono ?_
  rintro e w1 ⟨r, rfl, h⟩
  have HR := hide h.out.1
  have HI := hide h.out.2
  clear h HCA
  go_wp2_with fail
  go_ret
  exact ⟨by rw [← HR.out]; rfl, HI⟩
set_option maxRecDepth 1000000 in
set_option maxHeartbeats 1000000 in
theorem indexStray_any (w : World) (v : Value) (xs : List ByteArray) (hv : SSl w v xs) (q : Nat) (p : Nat → Bool) (I : Nat → World → Prop) (h0 : I 0 w) (hB : ∀ i wx, I i wx → SSl wx v xs) (hC : ∀ i x wx, xs[i]? = some x → I i wx → Calls Tryz.prog 171 #[.string x, .pointer (some ⟨q, 0, none⟩)] wx fun e w' => e = .returned (.bool (p i)) ∧ I (i + 1) w') : Calls Tryz.prog 174 #[v, .func (.func 171) #[] #[.pointer (some ⟨q, 0, none⟩)]] w fun e w' => ∃ r : Int, e = .returned (.int .i64 r) ∧ Hid (decide (0 ≤ r) = (List.range xs.length).any p ∧ ∃ i, I i w') := by
  have HH0 := hide h0
  have HB := hide hB
  have HC := hide hC
  have hmax := hv.max
  obtain ⟨⟨a, cap, rfl, _, hform⟩, _, _⟩ := hv
  clear h0 hB hC hform
  go_enter Tryz.func174, Tryz.ntmps174
  go_wp2_with fail
  go_loopw [8] (fun ii wx => ∃ i : Nat, i ≤ xs.length ∧ ii = .int .i64 (i : Nat) ∧ Hid (∀ j, j < i → p j = false) ∧ Hid (I i wx)) (fun ii _ => xs.length - (intOf ii).toNat)
  case atStart => exact ⟨0, by omega, rfl, fun j hj => absurd hj (by omega), HH0⟩
  case round =>
    obtain ⟨i, hi, rfl, HN, HI⟩ := hrel
    by_cases hlt : i < xs.length
    · as_aux_lemma =>
      have g1 : (i : Int) < (xs.length : Int) := by omega
      obtain ⟨x, hx⟩ : ∃ x, xs[i]? = some x := ⟨xs[i], List.getElem?_eq_getElem hlt⟩
      have hsl := HB.out i wr HI.out
      obtain ⟨⟨a', cap', hv', _, hf'⟩, _⟩ := hsl
      injection hv' with e1 _ e3
      subst e1
      obtain ⟨b, off, rfl, hcc⟩ := hf'.resolve_left (fun h => by rw [h] at hlt; simp at hlt)
      clear e3
      have c1 := hcc i x hx
      have HCA := hide (HC.out i x wr hx HI.out)
      clear hcc hx HC
      go_wp2_with fail
      refine HCA.out.mono ?_
      rintro e w1 ⟨rfl, hb1⟩
      have HI1 := hide hb1
      clear hb1 HCA
      rcases Bool.eq_false_or_eq_true (p i) with hr | hr
      · have HA : Hid ((List.range xs.length).any p = true) := List.any_eq_true.2 ⟨i, List.mem_range.2 hlt, hr⟩
        rw [hr]
        go_wp2_with fail
        go_ret
        exact ⟨_, rfl, by rw [HA.out, decide_eq_true (by omega)], _, HI1.out⟩
      · have HN2 : Hid (∀ j, j < i + 1 → p j = false) := fun j hj => by
          by_cases hji : j = i
          · rw [hji]; exact hr
          · exact HN.out j (by omega)
        rw [hr]
        clear hr HN
        go_wp2_with fail
        go_roundw
        case rel => exact ⟨i + 1, by omega, by go_num, HN2, HI1⟩
        case measure => simp [intOf]; omega
    · as_aux_lemma =>
      have g1 : ¬ (i : Int) < (xs.length : Int) := by omega
      have HA : Hid ((List.range xs.length).any p = false) := by
        show _ = _
        rw [List.any_eq_false]
        intro j hj
        rw [HN.out j (by have := List.mem_range.1 hj; omega)]
        simp
      go_wp2_with fail
      go_ret
      exact ⟨_, rfl, by rw [HA.out]; rfl, _, HI.out⟩
set_option maxRecDepth 1000000 in
theorem containsStray_any (w : World) (v : Value) (xs : List ByteArray) (hv : SSl w v xs) (q : Nat) (p : Nat → Bool) (I : Nat → World → Prop) (h0 : I 0 w) (hB : ∀ i wx, I i wx → SSl wx v xs) (hC : ∀ i x wx, xs[i]? = some x → I i wx → Calls Tryz.prog 171 #[.string x, .pointer (some ⟨q, 0, none⟩)] wx fun e w' => e = .returned (.bool (p i)) ∧ I (i + 1) w') : Calls Tryz.prog 144 #[v, .func (.func 171) #[] #[.pointer (some ⟨q, 0, none⟩)]] w fun e w' => e = .returned (.bool ((List.range xs.length).any p)) ∧ Hid (∃ i, I i w') := by
  have HCA := hide (indexStray_any w v xs hv q p I h0 hB hC)
  obtain ⟨⟨a, cap, rfl, _, _⟩, _, _⟩ := hv
  clear h0 hB hC
  go_enter Tryz.func144, Tryz.ntmps144
  go_wp2_with fail
  refine HCA.out.mono ?_
  rintro e w1 ⟨r, rfl, h⟩
  have HR := hide h.out.1
  have HI := hide h.out.2
  clear h HCA
  go_wp2_with fail
  go_ret
  exact ⟨by rw [← HR.out]; rfl, HI⟩
end
section
open Go.RowKit Go
structure Str (q B n : Nat) (L : List ByteArray) (wx : World) : Prop where
  q : wx.heap[q]? = some (.cells #[.map (some B)] 90 (0, 0))
  m : Mst wx B n L
theorem Str.next {q B n : Nat} {L : List ByteArray} {wx wy : World} (h : Str q B n L wx) (hb : Below wx.heap.size wx wy) : Str q B n L wy := ⟨(hb.block _ (blk_lt h.q)).trans h.q, h.m.next hb⟩
theorem Str.kp {q B n : Nat} {L : List ByteArray} {wx wy : World} {S : Nat → Prop} (h : Str q B n L wx) (hk : Kp S wx wy) (h1 : ¬ S q) (h2 : ¬ S B) : Str q B n L wy := ⟨(hk.block _ (blk_lt h.q) h1).trans h.q, h.m.kp hk h2⟩
theorem Str.ne {q B n : Nat} {L : List ByteArray} {wx : World} (h : Str q B n L wx) : q ≠ B := fun e => by
  have h1 := h.q
  obtain ⟨_, D, ⟨es, clock, h2, _⟩, _⟩ := h.m
  rw [e, h2] at h1
  cases h1
set_option maxRecDepth 1000000 in
set_option maxHeartbeats 1000000 in
theorem strays_any (w : World) : Calls Tryz.prog 138 #[] w fun e w' => e = .returned (.func (.func 171) #[] #[.pointer (some ⟨w.heap.size + 1, 0, none⟩)]) ∧ Hid (Str (w.heap.size + 1) w.heap.size 0 [] w' ∧ Below w.heap.size w w') := by
  have hmm := @run_makeMap Tryz.prog
  have e1 : (w.alloc (.map #[] 0)).heap.size = w.heap.size + 1 := by simp
  have HS : Hid (Str (w.heap.size + 1) w.heap.size 0 [] ((w.alloc (.map #[] 0)).alloc (.cells #[.map (some w.heap.size)] 90))) := by
    have h := heap_alloc_new (w.alloc (.map #[] 0)) (.cells #[.map (some w.heap.size)] 90)
    rw [e1] at h
    exact ⟨h, (Mst.made w).next (below_alloc4 _ _)⟩
  have HB : Hid (Below w.heap.size w ((w.alloc (.map #[] 0)).alloc (.cells #[.map (some w.heap.size)] 90))) := (below_alloc4 w _).trans ((below_alloc4 _ _).mono (below_alloc4 w _).size)
  clear e1
  go_enter Tryz.func138, Tryz.ntmps138
  go_wp2_with fail
  go_ret
  exact ⟨rfl, HS.out, HB.out⟩
set_option maxRecDepth 1000000 in
set_option maxHeartbeats 1000000 in
theorem stray1_any (s : ByteArray) (hs : s.size ≤ 140737488351232) (q B n : Nat) (L : List ByteArray) (w : World) (h : Str q B n L w) (hn : n < 1000000) (hTB : ∀ wy, Kp (fun x => x = B) w wy → Tabs wy) : Calls Tryz.prog 171 #[.string s, .pointer (some ⟨q, 0, none⟩)] w fun e w' => e = .returned (.bool (stray L s)) ∧ Hid (Str q B (n + 1) (putL L s) w' ∧ Kp (fun x => x = B) w w') := by
  have HS := hide hs
  have HH := hide h
  have HTB := hide hTB
  have HN : Hid (n < 140737488351232) := by show _ < _; omega
  have q0 : w.cell? ⟨q, 0, none⟩ = some (.map (some B)) := blk_cell (j := 0) h.q rfl
  have HM := hide h.m
  have hqs : q < w.heap.size := blk_lt h.q
  clear hs h hTB
  go_enter Tryz.func171, Tryz.ntmps171
  have hb0 := below_alloc4 w (.cells #[] 78)
  have HK0 : Hid (Kp (fun x => x = B) w (w.alloc (.cells #[] 78))) := Kp.mono (Kp.of_below (S := fun _ => False) hb0) (fun _ _ e => e.elim)
  have HM1 := hide (HM.out.next hb0)
  clear hb0
  go_upto_region 3 with (first
    | (refine wpList_lookS rfl rfl rfl rfl HM.out HS.out ?_)
    | (refine wpList_putS rfl rfl rfl rfl rfl HM1.out HS.out HN.out ?_; intro w1 hm1 hk1))
  have HK1 : Hid (Kp (fun x => x = B) w w1) := HK0.out.trans hk1 (fun _ _ e => e)
  have HS1 : Hid (Str q B (n + 1) (putL L s) w1) := ⟨(HK1.out.block _ (blk_lt HH.out.q) HH.out.ne).trans HH.out.q, hm1⟩
  clear hm1 hk1 HK0 HM HM1 q0
  (try simp only [Act.put]); (try simp only [LsA, Ls0, LsS])
  rcases Bool.eq_false_or_eq_true (memb L s) with hm | hm
  · have HR : Hid (stray L s = true) := by show _ = _; unfold stray; rw [hm]; rfl
    rw [hm]
    clear hm
    go_wp2_with fail
    go_ret
    exact ⟨by rw [HR.out]; rfl, HS1.out, HK1.out⟩
  · have HR : Hid (stray L s = badb s) := by show _ = _; unfold stray; rw [hm]; rfl
    rw [hm]
    clear hm
    go_wp2_with fail
    refine (valid_any s w1 HS.out (HTB.out w1 HK1.out)).mono ?_
    rintro e w2 ⟨rfl, hb⟩
    have HS2 := hide (HS1.out.next hb)
    have HK2 : Hid (Kp (fun x => x = B) w w2) := HK1.out.trans (Kp.of_below (S := fun _ => False) hb) (fun _ _ e => e.elim)
    clear hb
    go_wp2_with fail
    go_ret
    exact ⟨by rw [HR.out]; simp, HS2.out, HK2.out⟩
set_option maxRecDepth 1000000 in
set_option maxHeartbeats 1000000 in
theorem keys1_any (x : Cz) (hs : x.k.size ≤ 140737488351232) (p q B n : Nat) (L : List ByteArray) (w : World) (hp : w.heap[p]? = some (.cells #[.func (.func 171) #[] #[.pointer (some ⟨q, 0, none⟩)]] 72 (0, 0))) (h : Str q B n L w) (hn : n < 1000000) (hTB : ∀ wy, Kp (fun x => x = B) w wy → Tabs wy) : Calls Tryz.prog 141 #[.agg #[.string x.k, .string x.n], .pointer (some ⟨p, 0, none⟩)] w fun e w' => e = .returned (.bool (stray L x.k)) ∧ Hid (Str q B (n + 1) (putL L x.k) w' ∧ Kp (fun x => x = B) w w') := by
  have hb0 := below_alloc4 w (.cells #[.string x.k, .string x.n] 114)
  have HK0 : Hid (Kp (fun x => x = B) w (w.alloc (.cells #[.string x.k, .string x.n] 114))) := Kp.mono (Kp.of_below (S := fun _ => False) hb0) (fun _ _ e => e.elim)
  have HC : Hid (∀ wx, Kp (fun x => x = B) w wx → Str q B n L wx → Calls Tryz.prog 171 #[.string x.k, .pointer (some ⟨q, 0, none⟩)] wx fun e w' => e = .returned (.bool (stray L x.k)) ∧ Hid (Str q B (n + 1) (putL L x.k) w' ∧ Kp (fun x => x = B) wx w')) := fun wx hx h2 => stray1_any x.k hs q B n L wx h2 hn (fun wy hy => hTB wy (hx.trans hy (fun _ _ e => e)))
  have HS0 := hide (h.next hb0)
  have q0 : (w.alloc (.cells #[.string x.k, .string x.n] 114)).cell? ⟨p, 0, none⟩ = some (.func (.func 171) #[] #[.pointer (some ⟨q, 0, none⟩)]) := keep_below hb0 _ _ (blk_cell (j := 0) hp rfl)
  clear hb0 hs hp h hTB
  go_enter Tryz.func141, Tryz.ntmps141
  go_wp2_with fail
  refine (HC.out _ HK0.out HS0.out).mono ?_
  rintro e w2 ⟨rfl, h2⟩
  have HS2 := hide h2.out.1
  have HK2 : Hid (Kp (fun x => x = B) w w2) := HK0.out.trans h2.out.2 (fun _ _ e => e)
  clear h2 q0 HC
  go_wp2_with fail
  go_ret
  exact ⟨rfl, HS2.out, HK2.out⟩
set_option maxRecDepth 1000000 in
set_option maxHeartbeats 1000000 in
theorem nokey_any (x : Cz) (w : World) : Calls Tryz.prog 142 #[.agg #[.string x.k, .string x.n]] w fun e w' => e = .returned (.bool (!decide (x.k = ⟨#[]⟩))) ∧ Below w.heap.size w w' := by
  have HB := hide (below_alloc4 w (.cells #[.string x.k, .string x.n] 114))
  by_cases hx : x.k = ⟨#[]⟩
  · have g : (x.k.toList == []) = true := by rw [hx, emp_list]; rfl
    have HR : Hid ((!decide (x.k = ⟨#[]⟩)) = false) := by show _ = _; rw [decide_eq_true hx]; rfl
    clear hx
    go_enter Tryz.func142, Tryz.ntmps142
    go_wp2_with fail
    go_ret
    exact ⟨by rw [HR.out]; simp, HB.out⟩
  · have g : (x.k.toList == []) = false := by have := str_no hx; rw [emp_list] at this; exact this
    have HR : Hid ((!decide (x.k = ⟨#[]⟩)) = true) := by show _ = _; rw [decide_eq_false hx]; rfl
    clear hx
    go_enter Tryz.func142, Tryz.ntmps142
    go_wp2_with fail
    go_ret
    exact ⟨by rw [HR.out]; simp, HB.out⟩
end
section
open Go.RowKit Go
def snf (L l : List ByteArray) : List ByteArray := l.foldl putL L
def pst (L ks : List ByteArray) (i : Nat) : Bool := stray (snf L (ks.take i)) (ks.getD i ⟨#[]⟩)
theorem any_range (n : Nat) (p : Nat → Bool) : (List.range (n + 1)).any p = (p 0 || (List.range n).any fun i => p (i + 1)) := by
  rw [List.range_succ_eq_map, List.any_cons, List.any_map]
  rfl
theorem good_any : ∀ (ks L : List ByteArray), goodT L ks = !((List.range ks.length).any (pst L ks))
  | [], _ => rfl
  | s :: r, L => by
    rw [List.length_cons, any_range]
    have e0 : pst L (s :: r) 0 = stray L s := rfl
    rw [e0]
    unfold goodT
    cases hs : stray L s with
    | true => rfl
    | false =>
      have hm : memb L s = false := by
        unfold stray at hs
        exact (Bool.or_eq_false_iff.1 hs).1
      have e1 : (fun i => pst L (s :: r) (i + 1)) = pst (s :: L) r := by
        funext i
        unfold pst snf
        simp only [List.take_succ_cons, List.foldl_cons, List.getD_cons_succ]
        unfold putL
        rw [if_neg (by rw [hm]; decide)]
      rw [e1, good_any r (s :: L)]
      simp
theorem snf_succ (L ks : List ByteArray) (i : Nat) (s : ByteArray) (h : ks[i]? = some s) : snf L (ks.take (i + 1)) = putL (snf L (ks.take i)) s := by
  obtain ⟨hl, he⟩ := List.getElem?_eq_some_iff.1 h
  unfold snf
  rw [List.take_succ_eq_append_getElem hl, List.foldl_append, he]
  rfl
theorem pst_at (L ks : List ByteArray) (i : Nat) (s : ByteArray) (h : ks[i]? = some s) : pst L ks i = stray (snf L (ks.take i)) s := by
  unfold pst
  simp only [List.getD, h]
  rfl
set_option maxRecDepth 1000000 in
theorem someC_any (w : World) (a : Option Addr) (n cap : Nat) (hn : n ≤ 140737488351232) : Calls Tryz.prog 139 #[.slice a n cap] w fun e w' => e = .returned (.bool (some64 n)) ∧ w' = w := by
  by_cases h0 : 0 < n
  · have g0 : (0 : Int) < (n : Int) := by omega
    by_cases h1 : n ≤ 64
    · have g1 : (n : Int) ≤ 64 := by omega
      have HR : Hid (some64 n = true) := by show _ = _; unfold some64; rw [decide_eq_true h0, decide_eq_true h1]; rfl
      clear h0 h1
      go_enter Tryz.func139, Tryz.ntmps139
      go_wp2_with fail
      go_ret
      exact ⟨by rw [HR.out]; rfl, rfl⟩
    · have g1 : ¬ (n : Int) ≤ 64 := by omega
      have HR : Hid (some64 n = false) := by show _ = _; unfold some64; rw [decide_eq_false h1, Bool.and_false]
      clear h0 h1
      go_enter Tryz.func139, Tryz.ntmps139
      go_wp2_with fail
      go_ret
      exact ⟨by rw [HR.out]; rfl, rfl⟩
  · have g0 : ¬ (0 : Int) < (n : Int) := by omega
    have HR : Hid (some64 n = false) := by show _ = _; unfold some64; rw [decide_eq_false h0, Bool.false_and]
    clear h0
    go_enter Tryz.func139, Tryz.ntmps139
    go_wp2_with fail
    go_ret
    exact ⟨by rw [HR.out]; rfl, rfl⟩
set_option maxRecDepth 1000000 in
theorem someS_any (w : World) (a : Option Addr) (n cap : Nat) (hn : n ≤ 140737488351232) : Calls Tryz.prog 143 #[.slice a n cap] w fun e w' => e = .returned (.bool (some64 n)) ∧ w' = w := by
  by_cases h0 : 0 < n
  · have g0 : (0 : Int) < (n : Int) := by omega
    by_cases h1 : n ≤ 64
    · have g1 : (n : Int) ≤ 64 := by omega
      have HR : Hid (some64 n = true) := by show _ = _; unfold some64; rw [decide_eq_true h0, decide_eq_true h1]; rfl
      clear h0 h1
      go_enter Tryz.func143, Tryz.ntmps143
      go_wp2_with fail
      go_ret
      exact ⟨by rw [HR.out]; rfl, rfl⟩
    · have g1 : ¬ (n : Int) ≤ 64 := by omega
      have HR : Hid (some64 n = false) := by show _ = _; unfold some64; rw [decide_eq_false h1, Bool.and_false]
      clear h0 h1
      go_enter Tryz.func143, Tryz.ntmps143
      go_wp2_with fail
      go_ret
      exact ⟨by rw [HR.out]; rfl, rfl⟩
  · have g0 : ¬ (0 : Int) < (n : Int) := by omega
    have HR : Hid (some64 n = false) := by show _ = _; unfold some64; rw [decide_eq_false h0, Bool.false_and]
    clear h0
    go_enter Tryz.func143, Tryz.ntmps143
    go_wp2_with fail
    go_ret
    exact ⟨by rw [HR.out]; rfl, rfl⟩
theorem all_range {α : Type} (l : List α) (d : α) (f : α → Bool) : l.all f = !((List.range l.length).any fun i => !f (l.getD i d)) := by
  induction l with
  | nil => rfl
  | cons x r ih =>
    rw [List.length_cons, any_range, List.all_cons, ih]
    simp only [List.getD_cons_zero, List.getD_cons_succ]
    cases f x <;> simp
theorem some64_le {n : Nat} (h : some64 n = true) : n ≤ 64 := by
  unfold some64 at h
  rw [Bool.and_eq_true, decide_eq_true_eq, decide_eq_true_eq] at h
  exact h.2
structure Csf (w : World) (tc : Array Value) (p q B n : Nat) (L : List ByteArray) (wx : World) : Prop where
  a : wx.heap[w.heap.size]? = some (.cells tc 69 (0, 0))
  f : wx.heap[p]? = some (.cells #[.func (.func 171) #[] #[.pointer (some ⟨q, 0, none⟩)]] 72 (0, 0))
  s : Str q B n L wx
  b : Below w.heap.size w wx
  h1 : w.heap.size < B
  h2 : p ≠ B
theorem Csf.turn {w wx wy : World} {tc : Array Value} {p q B n n' : Nat} {L L' : List ByteArray} (h : Csf w tc p q B n L wx) (hk : Kp (fun x => x = B) wx wy) (hs : Str q B n' L' wy) : Csf w tc p q B n' L' wy := ⟨(hk.block _ (blk_lt h.a) (fun e => by have := h.h1; omega)).trans h.a, (hk.block _ (blk_lt h.f) h.h2).trans h.f, hs, h.b.trans (hk.below h.b.size (fun x e => by have := h.h1; omega)), h.h1, h.h2⟩
set_option maxRecDepth 1000000 in
set_option maxHeartbeats 1000000 in
theorem casesFit_any (w : World) (hT : Tabs w) (t : Tp) (c : Array Value) (hc : Tpi w t c) : Calls Tryz.prog 101 #[.agg c] w fun e w' => e = .returned (.bool (cft t)) ∧ Below w.heap.size w w' := by
  have HT : Hid (∀ wy, Below w.heap.size w wy → Tabs wy) := fun wy hb => hT.next hb
  obtain ⟨⟨vf, vc, vw, rfl, ⟨⟨af, cf, rfl, -, hff⟩, hfm⟩, hcS, hwS⟩, hbd⟩ := hc
  have HCS := hide hcS
  have HWS := hide hwS
  obtain ⟨⟨ac, cc, rfl, -, hcf⟩, hcm⟩ := hcS
  obtain ⟨⟨aw, cw, rfl, -, -⟩, hwm, hwz⟩ := hwS
  have HWZ := hide hwz
  have HCZ : Hid (∀ (i : Nat) (x : Cz), t.cs[i]? = some x → x.k.size ≤ 140737488351232) := fun i x hx => by
    rcases hcf with h | ⟨b, off, _, h⟩
    · simp [h] at hx
    · obtain ⟨_, ⟨_, h3, _⟩, _⟩ := h i x hx
      exact h3
  unfold tpc
  clear hff hfm hcf hwz hbd hT
  go_enter Tryz.func101, Tryz.ntmps101
  go_upto_region 1 with fail
  have HA1 := hide (heap_alloc_new w (.cells #[.string t.n, .int .i64 t.k, .int .i64 t.lo, .int .i64 t.hi, .string t.r.n, .bool t.r.z, .slice af t.fs.length cf, .slice ac t.cs.length cc, .slice aw t.ws.length cw] 69))
  have HB1 := hide (below_alloc4 w (.cells #[.string t.n, .int .i64 t.k, .int .i64 t.lo, .int .i64 t.hi, .string t.r.n, .bool t.r.z, .slice af t.fs.length cf, .slice ac t.cs.length cc, .slice aw t.ws.length cw] 69))
  have HT1 : Hid ((#[.string t.n, .int .i64 t.k, .int .i64 t.lo, .int .i64 t.hi, .string t.r.n, .bool t.r.z, .slice af t.fs.length cf, .slice ac t.cs.length cc, .slice aw t.ws.length cw] : Array Value)[1]? = some (.int .i64 t.k)) := rfl
  have HT7 : Hid ((#[.string t.n, .int .i64 t.k, .int .i64 t.lo, .int .i64 t.hi, .string t.r.n, .bool t.r.z, .slice af t.fs.length cf, .slice ac t.cs.length cc, .slice aw t.ws.length cw] : Array Value)[7]? = some (.slice ac t.cs.length cc)) := rfl
  have HT8 : Hid ((#[.string t.n, .int .i64 t.k, .int .i64 t.lo, .int .i64 t.hi, .string t.r.n, .bool t.r.z, .slice af t.fs.length cf, .slice ac t.cs.length cc, .slice aw t.ws.length cw] : Array Value)[8]? = some (.slice aw t.ws.length cw)) := rfl
  obtain ⟨tc, htc⟩ : ∃ tc : Array Value, tc = #[.string t.n, .int .i64 t.k, .int .i64 t.lo, .int .i64 t.hi, .string t.r.n, .bool t.r.z, .slice af t.fs.length cf, .slice ac t.cs.length cc, .slice aw t.ws.length cw] := ⟨_, rfl⟩
  rw [← htc] at HA1 HB1 HT1 HT7 HT8
  rw [← htc]
  clear htc
  generalize w.alloc (.cells tc 69) = w1 at *
  go_wp2_with fail
  refine (strays_any w1).mono ?_
  rintro e w2 ⟨rfl, hP⟩
  have hS := hP.out.1
  have hb2 := hP.out.2
  have HX : Hid (Csf w tc w2.heap.size (w1.heap.size + 1) w1.heap.size 0 [] (w2.alloc (.cells #[.func (.func 171) #[] #[.pointer (some ⟨w1.heap.size + 1, 0, none⟩)]] 72))) := by
    have hb3 := below_alloc4 w2 (.cells #[.func (.func 171) #[] #[.pointer (some ⟨w1.heap.size + 1, 0, none⟩)]] 72)
    have h5 := blk_lt HA1.out
    have h6 := hS.m.lt
    have ha2 := (hb2.block _ h5).trans HA1.out
    exact ⟨(hb3.block _ (blk_lt ha2)).trans ha2, heap_alloc_new w2 _, hS.next hb3, (HB1.out.trans (hb2.mono HB1.out.size)).trans (hb3.mono (Nat.le_trans HB1.out.size hb2.size)), h5, by omega⟩
  clear hP hS hb2 HA1 HB1
  generalize w1.heap.size = B at *
  generalize B + 1 = q at *
  go_upto_region 2 with fail
  generalize w2.heap.size = p at *
  generalize w2.alloc (.cells #[.func (.func 171) #[] #[.pointer (some ⟨q, 0, none⟩)]] 72) = w3 at *
  have q1 : w3.cell? ⟨w.heap.size, 1, none⟩ = some (.int .i64 t.k) := blk_cell (j := 1) HX.out.a HT1.out
  have q7 : w3.cell? ⟨w.heap.size, 7, none⟩ = some (.slice ac t.cs.length cc) := blk_cell (j := 7) HX.out.a HT7.out
  have q8 : w3.cell? ⟨w.heap.size, 8, none⟩ = some (.slice aw t.ws.length cw) := blk_cell (j := 8) HX.out.a HT8.out
  by_cases h7 : t.k = 7
  · as_aux_lemma =>
    have g7 : (t.k == 7) = true := beq_iff_eq.2 h7
    have HR : Hid (cft t = (some64 t.cs.length && goodT [] (t.cs.map (·.k)))) := by show _ = _; unfold cft; rw [if_pos h7]
    clear h7
    go_wp2_with fail
    refine (someC_any w3 ac _ cc hcm).mono ?_
    rintro e w4 ⟨rfl, hww⟩
    have hww := hww.symm
    subst hww
    rcases Bool.eq_false_or_eq_true (some64 t.cs.length) with hs | hs
    · have HS := hide hs
      rw [hs]
      clear hs
      go_wp2_with fail
      refine (containsKeys_any w3 _ t.cs (HCS.out.mv (keep_below HX.out.b)) p (pst [] (t.cs.map (·.k))) (fun i wx => Csf w tc p q B i (snf [] ((t.cs.map (·.k)).take i)) wx) HX.out (fun i wx hI => HCS.out.mv (keep_below hI.b)) (fun i x wx hx hI => by
        have hk : (t.cs.map (·.k))[i]? = some x.k := by rw [List.getElem?_map, hx]; rfl
        have hil : i < 1000000 := by have h1 := (List.getElem?_eq_some_iff.1 hx).1; have h2 := some64_le HS.out; omega
        rw [pst_at [] _ i x.k hk]
        refine (keys1_any x (HCZ.out i x hx) p q B i _ wx hI.f hI.s hil (fun wy hy => HT.out wy (hI.b.trans (hy.below hI.b.size (fun z e => by have := hI.h1; omega))))).mono ?_
        rintro e w' ⟨rfl, hP⟩
        refine ⟨rfl, ?_⟩
        rw [snf_succ [] _ i x.k hk]
        exact hI.turn hP.out.2 hP.out.1)).mono ?_
      rintro e w5 ⟨rfl, hI⟩
      have HB5 : Hid (Below w.heap.size w w5) := by
        obtain ⟨i, hI⟩ := hI.out
        exact hI.b
      clear hI
      have HG : Hid (goodT [] (t.cs.map (·.k)) = !((List.range t.cs.length).any (pst [] (t.cs.map (·.k))))) := by
        show _ = _
        rw [good_any, List.length_map]
      go_wp2_with fail
      go_ret
      exact ⟨by rw [HR.out, HS.out, HG.out]; simp, HB5.out⟩
    · have HS := hide hs
      rw [hs]
      clear hs
      go_wp2_with fail
      go_ret
      exact ⟨by rw [HR.out, HS.out]; simp, HX.out.b⟩
  have g7 : (t.k == 7) = false := beq_eq_false_iff_ne.2 h7
  by_cases h8 : t.k = 8
  · as_aux_lemma =>
    have g8 : (t.k == 8) = true := beq_iff_eq.2 h8
    have HR : Hid (cft t = (some64 t.cs.length && t.cs.all fun c => decide (c.k = ⟨#[]⟩))) := by show _ = _; unfold cft; rw [if_neg h7, if_pos h8]
    clear h7 h8
    go_wp2_with fail
    refine (someC_any w3 ac _ cc hcm).mono ?_
    rintro e w4 ⟨rfl, hww⟩
    have hww := hww.symm
    subst hww
    rcases Bool.eq_false_or_eq_true (some64 t.cs.length) with hs | hs
    · have HS := hide hs
      rw [hs]
      clear hs
      go_wp2_with fail
      refine (containsNoKey_any w3 _ t.cs (HCS.out.mv (keep_below HX.out.b)) (fun i => !decide ((t.cs.getD i ⟨⟨#[]⟩, ⟨#[]⟩⟩).k = ⟨#[]⟩)) (fun _ wx => Below w.heap.size w wx) HX.out.b (fun i wx hI => HCS.out.mv (keep_below hI)) (fun i x wx hx hI => by
        refine (nokey_any x wx).mono ?_
        rintro e w' ⟨rfl, hb⟩
        exact ⟨by simp only [List.getD, hx]; rfl, hI.trans (hb.mono hI.size)⟩)).mono ?_
      rintro e w5 ⟨rfl, hI⟩
      have HB5 : Hid (Below w.heap.size w w5) := by
        obtain ⟨i, hI⟩ := hI.out
        exact hI
      clear hI
      have HG : Hid ((t.cs.all fun c => decide (c.k = ⟨#[]⟩)) = !((List.range t.cs.length).any fun i => !decide ((t.cs.getD i ⟨⟨#[]⟩, ⟨#[]⟩⟩).k = ⟨#[]⟩))) := all_range t.cs _ _
      go_wp2_with fail
      go_ret
      exact ⟨by rw [HR.out, HS.out, HG.out]; simp, HB5.out⟩
    · have HS := hide hs
      rw [hs]
      clear hs
      go_wp2_with fail
      go_ret
      exact ⟨by rw [HR.out, HS.out]; simp, HX.out.b⟩
  have g8 : (t.k == 8) = false := beq_eq_false_iff_ne.2 h8
  by_cases h9 : t.k = 9
  · as_aux_lemma =>
    have g9 : (t.k == 9) = true := beq_iff_eq.2 h9
    have HR : Hid (cft t = (some64 t.ws.length && goodT [] t.ws)) := by show _ = _; unfold cft; rw [if_neg h7, if_neg h8, if_pos h9]
    clear h7 h8 h9
    have qf : w3.cell? ⟨p, 0, none⟩ = some (.func (.func 171) #[] #[.pointer (some ⟨q, 0, none⟩)]) := blk_cell (j := 0) HX.out.f rfl
    go_wp2_with fail
    refine (someS_any w3 aw _ cw hwm).mono ?_
    rintro e w4 ⟨rfl, hww⟩
    have hww := hww.symm
    subst hww
    rcases Bool.eq_false_or_eq_true (some64 t.ws.length) with hs | hs
    · have HS := hide hs
      rw [hs]
      clear hs
      go_wp2_with fail
      refine (containsStray_any w3 _ t.ws (HWS.out.move (keep_below HX.out.b)) q (pst [] t.ws) (fun i wx => Csf w tc p q B i (snf [] (t.ws.take i)) wx) HX.out (fun i wx hI => HWS.out.move (keep_below hI.b)) (fun i x wx hx hI => by
        have hil : i < 1000000 := by have h1 := (List.getElem?_eq_some_iff.1 hx).1; have h2 := some64_le HS.out; omega
        rw [pst_at [] _ i x hx]
        refine (stray1_any x (HWZ.out x (List.mem_of_getElem? hx)) q B i _ wx hI.s hil (fun wy hy => HT.out wy (hI.b.trans (hy.below hI.b.size (fun z e => by have := hI.h1; omega))))).mono ?_
        rintro e w' ⟨rfl, hP⟩
        refine ⟨rfl, ?_⟩
        rw [snf_succ [] _ i x hx]
        exact hI.turn hP.out.2 hP.out.1)).mono ?_
      rintro e w5 ⟨rfl, hI⟩
      have HB5 : Hid (Below w.heap.size w w5) := by
        obtain ⟨i, hI⟩ := hI.out
        exact hI.b
      clear hI
      have HG : Hid (goodT [] t.ws = !((List.range t.ws.length).any (pst [] t.ws))) := good_any t.ws []
      go_wp2_with fail
      go_ret
      exact ⟨by rw [HR.out, HS.out, HG.out]; simp, HB5.out⟩
    · have HS := hide hs
      rw [hs]
      clear hs
      go_wp2_with fail
      go_ret
      exact ⟨by rw [HR.out, HS.out]; simp, HX.out.b⟩
  · as_aux_lemma =>
    have g9 : (t.k == 9) = false := beq_eq_false_iff_ne.2 h9
    have HR : Hid (cft t = true) := by show _ = _; unfold cft; rw [if_neg h7, if_neg h8, if_neg h9]
    clear h7 h8 h9
    go_wp2_with fail
    go_ret
    exact ⟨by rw [HR.out]; rfl, HX.out.b⟩
end
end Go.Proofs.YtbbalhfjgpaabaaGreatDoor
