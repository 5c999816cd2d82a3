import Derived.Test.YtdejcapbggjjgaaGreatDoorJh
import Derived.Test.YtdejcapbggjjgaaGreatDoorJd
import Derived.Test.YtdejcapbggjjgaaGreatDoorJa
import Derived.Test.YtdejcapbggjjgaaGreatDoorJc
import Derived.Test.YtdejcapbggjjgaaGreatDoorSlav
import Derived.Laws.Externs
import Derived.Laws.Bits64
import Derived.Test.YtdejcapbggjjgaaGreatDoorJb
namespace Go.Proofs.YtdejcapbggjjgaaGreatDoor
section
open Go.RowKit Go
/-- A value all of whose lists have blocks of their own, within D. -/
inductive Ots (w : World) (base : Nat) : (Nat → Prop) → Tv → Array Value → Prop
  | mk (D : Nat → Prop) (t : Tv) (vy vk vi : Value) (L : List (Array Value)) (E : Nat → Nat → Prop) (hbd : Tbd t) (hyb : ∀ x ∈ t.y, x < 256) (hy : w.ownsRow base 5 1 vy t.y.length (bv t.y)) (hk : w.ownsRow base 9 1 vk t.ks.length (sv t.ks)) (hv : w.ownsRow base 61 13 vi t.is.length (vfl L)) (hL : L.length = t.is.length) (h13 : ∀ c ∈ L, one13 c)
      (hDy : ∀ q, vy.ownBlock = some q → D q) (hDk : ∀ q, vk.ownBlock = some q → D q) (hDi : ∀ q, vi.ownBlock = some q → D q)
      (hE : ∀ i, i < t.is.length → ∀ q, E i q → D q ∧ vy.ownBlock ≠ some q ∧ vk.ownBlock ≠ some q ∧ vi.ownBlock ≠ some q) (hdj : ∀ i j, i < j → j < t.is.length → ∀ q, E i q → ¬ E j q)
      (hcs : ∀ (i : Nat) (u : Tv) (c : Array Value), t.is[i]? = some u → L[i]? = some c → Ots w base (E i) u c) : Ots w base D t (vcs t vy vk vi)
theorem Ots.kp {w w' : World} {base : Nat} {D S : Nat → Prop} {t : Tv} {c : Array Value} (h : Ots w base D t c) (hk : Kp S w w') : (∀ q, D q → ¬ S q) → Ots w' base D t c := by
  induction h with
  | mk D t vy vk vi L E hbd hyb hy hkk hv hL h13 hDy hDk hDi hE hdj hcs ih =>
    intro hs
    exact Ots.mk D t vy vk vi L E hbd hyb (hk.owns hy (fun q e => hs q (hDy q e))) (hk.owns hkk (fun q e => hs q (hDk q e))) (hk.owns hv (fun q e => hs q (hDi q e))) hL h13 hDy hDk hDi hE hdj (fun i u c h1 h2 => ih i u c h1 h2 (fun q e => hs q (hE i (List.getElem?_eq_some_iff.1 h1).1 q e).1))
/-- Its items. -/
structure Oti (w : World) (base : Nat) (D : Nat → Prop) (is : List Tv) (vi : Value) (L : List (Array Value)) (E : Nat → Nat → Prop) : Prop where
  hv : w.ownsRow base 61 13 vi is.length (vfl L)
  hL : L.length = is.length
  h13 : ∀ c ∈ L, one13 c
  hD : ∀ q, vi.ownBlock = some q → D q
  hE : ∀ i, i < is.length → ∀ q, E i q → D q ∧ vi.ownBlock ≠ some q
  hdj : ∀ i j, i < j → j < is.length → ∀ q, E i q → ¬ E j q
  hcs : ∀ (i : Nat) (u : Tv) (c : Array Value), is[i]? = some u → L[i]? = some c → Ots w base (E i) u c
theorem Pt4.trans {w w1 w2 : World} {base B : Nat} {f f1 : Fin 4 → Fs} {t d n m : Nat} {L L' U : Nat → Prop} (hk1 : Kp (fun q => Ft4 B f q ∨ L q) w w1) (hf1 : ∀ q, Ft4 B f1 q → Ft4 B f q ∨ L q ∨ w.heap.size ≤ q) (h2 : Pt4 w1 base B f1 (t + n) d L' m w2) (hL : ∀ q, L q → U q) (hL' : ∀ q, L' q → U q) : Pt4 w base B f t d U (n + m) w2 := by
  obtain ⟨C2, f2, u2, hok, hk2, hf2⟩ := h2
  refine ⟨C2, f2, u2, by rw [← Nat.add_assoc]; exact hok, (hk1.mono (fun q _ e => e.imp id (hL q))).trans hk2 (fun q hq e => ?_), fun q e => ?_⟩
  · rcases e with e | e
    · rcases hf1 q e with h | h | h
      · exact .inl h
      · exact .inr (hL q h)
      · omega
    · exact .inr (hL' q e)
  · rcases hf2 q e with h | h | h
    · rcases hf1 q h with h | h | h
      · exact .inl h
      · exact .inr (.inl (hL q h))
      · exact .inr (.inr h)
    · exact .inr (.inl (hL' q h))
    · exact .inr (.inr (Nat.le_trans hk1.size h))
theorem Pt4.none {w : World} {base B : Nat} {C : Array Value} {f : Fin 4 → Fs} {t d u : Nat} (h : Bkq w base B C f t d u) (L : Nat → Prop) : Pt4 w base B f t d L 0 w := ⟨C, f, u, h, Kp.refl _ _, fun _ e => .inl e⟩
/-- What Book.Value does. -/
def BvC (t : Tv) : Prop := ∀ (w : World) (base B : Nat) (C : Array Value) (f : Fin 4 → Fs) (tt d u : Nat) (D : Nat → Prop) (c : Array Value), Bkq w base B C f tt d u → Ots w base D t c → (∀ q, D q → q < w.heap.size ∧ ¬ Ft4 B f q) → tmuch t ≤ 10000000 → tt + 3 * tmuch t < 68719476736 →
  Calls Tryz.prog 19 #[.pointer (some ⟨B, 0, none⟩), .agg c] w fun e w' => e = .returned (.tuple #[]) ∧ Hid (∃ n, n ≤ 3 * tmuch t ∧ Pt4 w base B f tt d D n w')
theorem tmuchL_takeq : ∀ (l : List Tv) (k : Nat) (u : Tv), l[k]? = some u → tmuchL (l.take (k + 1)) = tmuchL (l.take k) + tmuch u
  | [], _, _, h => by simp at h
  | x :: r, 0, u, h => by
    simp at h
    subst h
    simp [tmuchL]
  | x :: r, k + 1, u, h => by
    simp at h
    have := tmuchL_takeq r k u h
    rw [List.take_succ_cons, List.take_succ_cons, tmuchL, tmuchL, this]
    omega
set_option maxRecDepth 1000000 in
set_option maxHeartbeats 1000000 in
theorem bvalues_any (is : List Tv) (ih : ∀ u ∈ is, BvC u) (w0 : World) (base B : Nat) (C0 : Array Value) (f0 : Fin 4 → Fs) (t0 d u0 : Nat) (D : Nat → Prop) (vi : Value) (L : List (Array Value)) (E : Nat → Nat → Prop) (hok0 : Bkq w0 base B C0 f0 t0 d u0) (hi0 : Oti w0 base D is vi L E) (hD0 : ∀ q, D q → q < w0.heap.size ∧ ¬ Ft4 B f0 q) (hm0 : tmuchL is ≤ 10000000) (ht0 : t0 + 3 * tmuchL is + 1 < 68719476736) :
    Calls Tryz.prog 29 #[.pointer (some ⟨B, 0, none⟩), vi] w0 fun e w' => e = .returned (.tuple #[]) ∧ Hid (∃ n, n ≤ 3 * tmuchL is + 1 ∧ Pt4 w0 base B f0 t0 d D n w') := by
  have HIH := hide ih
  have HOK0 := hide hok0
  have HI0 := hide hi0
  have HD0 := hide hD0
  have HM0 := hide hm0
  have HT0 := hide ht0
  have hlen : is.length ≤ 10000000 := Nat.le_trans (tmuchL_len is) hm0
  obtain ⟨ai, ci, hvi⟩ := own_slice hi0.hv
  clear ih hok0 hi0 hD0 hm0 ht0
  rw [hvi]
  have HVI := hide hvi
  clear hvi
  go_enter Tryz.func29, Tryz.ntmps29
  go_wp2_with fail
  go_loopw [4] (fun i wr => ∃ k n : Nat, k ≤ is.length ∧ i = .int .i64 k ∧ Hid (n ≤ 3 * tmuchL (is.take k)) ∧ Hid (Pt4 w0 base B f0 t0 d (fun q => ∃ i, i < k ∧ E i q) n wr)) (fun i _ => is.length - (intOf i).toNat)
  case atStart => exact ⟨0, 0, Nat.zero_le _, rfl, Nat.zero_le _, Pt4.none HOK0.out _⟩
  case round =>
    rename World => wr
    obtain ⟨k, n1, hk, rfl, HN1, HP⟩ := hrel
    have hEi : ∀ q, (Value.slice ai is.length ci).ownBlock = some q → ¬ (Ft4 B f0 q ∨ ∃ i, i < k ∧ E i q) := fun q hq e => by
      rw [← HVI.out] at hq
      rcases e with e | ⟨i, hi, e⟩
      · exact (HD0.out q (HI0.out.hD q hq)).2 e
      · exact (HI0.out.hE i (by omega) q e).2 hq
    by_cases hlt : k < is.length
    · as_aux_lemma =>
      have hlt' : (k : Int) < (is.length : Int) := by omega
      obtain ⟨C1, f1, u1, hok1, hk1, hf1⟩ := HP.out
      obtain ⟨u, hu⟩ : ∃ u, is[k]? = some u := ⟨is[k], List.getElem?_eq_getElem hlt⟩
      obtain ⟨c, hc⟩ : ∃ c, L[k]? = some c := ⟨L[k]'(by rw [HI0.out.hL]; exact hlt), List.getElem?_eq_getElem _⟩
      have hmem := List.mem_of_getElem? hu
      have hrow : wr.ownsRow base 61 13 (.slice ai is.length ci) is.length (vfl L) := by
        have h := HI0.out.hv
        rw [HVI.out] at h
        exact hk1.owns h hEi
      obtain ⟨g, hg⟩ : ∃ g, ai = some ⟨g, 0, none⟩ := by
        rcases hrow.2 with ⟨_, h0⟩ | ⟨g, _, _, hv, _⟩
        · omega
        · injection hv with hv; exact ⟨g, hv⟩
      subst hg
      have HCC : Hid (∀ j x, c[j]? = some x → wr.cell? ⟨g, k * 13 + j, none⟩ = some x) := own_val hrow (fun c hc => (HI0.out.h13 c hc).1) hc
      have HSZ : Hid (c.size = 13) := (HI0.out.h13 c (List.mem_of_getElem? hc)).1
      have hots : Ots wr base (E k) u c := (HI0.out.hcs k u c hu hc).kp hk1 (fun q e es => by
        have hq := HI0.out.hE k hlt q e
        rcases es with es | ⟨i, hi, es⟩
        · exact (HD0.out q hq.1).2 es
        · exact HI0.out.hdj i k hi hlt q es e)
      have hmu : tmuch u ≤ tmuchL is := tmuchL_mem hmem
      have htk := tmuchL_takeq is k u hu
      have htl := tmuchL_take_le is (k + 1)
      have HCA := hide (HIH.out u hmem wr base B C1 f1 (t0 + n1) d u1 (E k) c hok1 hots (fun q e => by
        have hq := HI0.out.hE k hlt q e
        have hd := HD0.out q hq.1
        refine ⟨Nat.lt_of_lt_of_le hd.1 hk1.size, fun es => ?_⟩
        rcases hf1 q es with h | ⟨i, hi, h⟩ | h
        · exact hd.2 h
        · exact HI0.out.hdj i k hi hlt q h e
        · omega) (by have := HM0.out; omega) (by have h1 := HN1.out; have h2 := HT0.out; omega))
      have HTR : Hid (∀ n2 w2, n2 ≤ 3 * tmuch u → Pt4 wr base B f1 (t0 + n1) d (E k) n2 w2 → n1 + n2 ≤ 3 * tmuchL (is.take (k + 1)) ∧ Pt4 w0 base B f0 t0 d (fun q => ∃ i, i < k + 1 ∧ E i q) (n1 + n2) w2) := fun n2 w2 hn2 hp2 => ⟨by have h1 := HN1.out; rw [htk]; omega, Pt4.trans hk1 hf1 hp2 (fun q ⟨i, hi, e⟩ => ⟨i, by omega, e⟩) (fun q e => ⟨k, by omega, e⟩)⟩
      clear hu hc hmem hrow hots hmu htk htl hk1 hf1 hok1 HP hEi
      go_wp2_with (refine wpList_valAt rfl rfl g (k * 13) c rfl HSZ.out HCC.out ?_)
      refine HCA.out.mono ?_
      rintro e w2 ⟨rfl, hpost⟩
      obtain ⟨n2, hn2, hp2⟩ := hpost.out
      have HF2 := hide (HTR.out n2 w2 hn2 hp2)
      clear hpost hn2 hp2 HTR
      go_wp2
      go_roundw
      case rel => exact ⟨k + 1, n1 + n2, by omega, by go_num, HF2.out.1, HF2.out.2⟩
      case measure => simp [intOf]; omega
    · have hlt' : ¬ (k : Int) < (is.length : Int) := by omega
      obtain ⟨C, f, u, hok1, hk1, hf1⟩ := HP.out
      obtain ⟨w, hw⟩ : ∃ x, x = wr := ⟨_, rfl⟩
      subst hw
      obtain ⟨t, htq⟩ : ∃ x, x = t0 + n1 := ⟨_, rfl⟩
      obtain ⟨n, hnq⟩ : ∃ x, x = is.length := ⟨_, rfl⟩
      obtain ⟨l, hlq⟩ : ∃ x, x = Value.slice ai is.length ci := ⟨_, rfl⟩
      obtain ⟨xs, hxq⟩ : ∃ x, x = vfl L := ⟨_, rfl⟩
      have hl : w.ownsRow base 61 13 l n xs := by
        have h := HI0.out.hv
        rw [HVI.out] at h
        rw [hlq, hnq, hxq]
        exact hk1.owns h hEi
      have hn : n < 68719476736 := by omega
      have hDl : ∀ q, l.ownBlock = some q → ¬ Ft4 B f q := fun q hq es => by
        have hq2 := hq
        rw [hlq, ← HVI.out] at hq2
        have hDq := HI0.out.hD q hq2
        have hd := HD0.out q hDq
        rcases hf1 q es with h | ⟨i, hi, h⟩ | h
        · exact hd.2 h
        · exact (HI0.out.hE i (by omega) q h).2 hq2
        · omega
      have ht : t + 1 < 68719476736 := by have h1 := HN1.out; have h2 := HT0.out; have h3 := tmuchL_take_le is k; omega
      have HEND : Hid (∀ w2, BkP KV 30 w base B C (f 3).vb (f 3).vo (f 3).es (f 3).a t u l w2 → Hid (∃ n, n ≤ 3 * tmuchL is + 1 ∧ Pt4 w0 base B f0 t0 d D n w2)) := fun w2 hp => by
        have h1 := hok1
        rw [← htq] at h1
        have h2 := h1.put 3 hp hDl ht
        rw [htq] at h2
        refine ⟨n1 + 1, by have h3 := HN1.out; have h4 := tmuchL_take_le is k; omega, Pt4.trans hk1 hf1 h2 (fun q ⟨i, hi, e⟩ => (HI0.out.hE i (by omega) q e).1) (fun q e => ?_)⟩
        rw [hlq, ← HVI.out] at e
        exact HI0.out.hD q e
      have hok := hok1
      rw [← htq] at hok
      have hB := hok.blk
      have h57 := hok.n
      have h54 := hok.c54
      have h56 := hok.c56
      have hu := hok.hu
      have hbase := hok.sz
      have hJ0 : C[30]? = some (f 3).vb := (hok.r 3).1
      have hJ1 : C[31]? = some (f 3).vo := (hok.r 3).2.1
      have hK : Ko KV w base (f 3).vb (f 3).vo (f 3).es (f 3).a t u := hok.k 3
      have hd : ∀ e ∈ (f 3).es, ∀ k, e.val.ownBlock = some k → l.ownBlock ≠ some k := fun e he q h1 h2 => hDl q h2 (.inr ⟨3, .inr (.inr ⟨e, he, h1⟩)⟩)
      have hlt2 : ¬ (k : Int) < (n : Int) := by rw [hnq]; exact hlt'
      have hnl : is.length = n := hnq.symm
      rw [hnl]
      have hlv : Value.slice ai n ci = l := by rw [hlq, hnq]
      rw [hlv]
      clear hok hok1 hk1 hf1 HP hEi hxq hDl htq HIH HI0 HD0 HVI HOK0 hlv hnl hlq hnq hlt hlt' hk HN1 HM0 HT0 hlen
      generalize (f 3).vb = vb at *
      generalize (f 3).vo = vo at *
      generalize (f 3).es = es at *
      generalize (f 3).a = a at *
      have c54 : w.cell? ⟨B, 54, none⟩ = some (.int .i64 (t : Nat)) := blk_cell hB h54
      have f54 := blk_frozen 54 hB
      have htt : (t : Int) + 1 < 68719476736 := by omega
      obtain ⟨al, capl, hlf⟩ := own_slice hl
      have HLB : Hid (l.ownBlock ≠ some B) := own_not hl hB (by decide)
      have e1 : ((t : Int) + 1) = ((t + 1 : Nat) : Int) := by omega
      have HB1 : Hid ((w.setCell ⟨B, 54, none⟩ (.int .i64 ((t : Int) + 1))).heap[B]? = some (.cells (C.setIfInBounds 54 (.int .i64 ((t + 1 : Nat) : Int))) 45 (0, 0))) := by show _ = _; rw [e1]; exact blk_set 54 _ hB
      have c54' : (w.setCell ⟨B, 54, none⟩ (.int .i64 ((t : Int) + 1))).cell? ⟨B, 54, none⟩ = some (.int .i64 ((t : Int) + 1)) := blk_cell HB1.out (by rw [get_set (by omega), e1])
      have HBB := hide hB
      have H57 := hide h57
      have HJ0 := hide hJ0
      have HJ1 := hide hJ1
      have HC56 := hide h56
      have HK := hide hK
      have HN := hide hn
      have HT := hide ht
      have HU := hide hu
      have HBASE := hide hbase
      have HK1 : Hid (Kp (fun k => k = B ∨ l.ownBlock = some k) w (w.setCell ⟨B, 54, none⟩ (.int .i64 ((t : Int) + 1)))) := (Kp.refl _ w).setCell _ _ (fun _ => .inl rfl)
      have HO1 : Hid ((w.setCell ⟨B, 54, none⟩ (.int .i64 ((t : Int) + 1))).ownsRow base 61 13 l n xs) := ((Kp.refl (fun k => k = B) w).setCell ⟨B, 54, none⟩ (.int .i64 ((t : Int) + 1)) (fun _ => rfl)).owns hl (fun k hk e => HLB.out (by rw [hk, e]))
      have HL := hide hl
      have HD := hide hd
      subst hlf
      have hnn : (n : Int) < 68719476736 := by omega
      clear hB h57 hJ0 hJ1 h54 h56 hK hl hn hd ht hu hbase e1
      obtain ⟨iL, hiL, hzL0, hzL1, hzL2⟩ := infoVS_ex
      have HAL : Hid ((vma (t + 1)).all (·.oneCell') = true) := by
        show _ = _
        rw [Array.all_eq_true']
        intro x hx
        exact vma_one (t + 1) x (by simpa using hx)
      go_wp2_with fail
      clear c54 f54 c54'
      generalize w.setCell ⟨B, 54, none⟩ (.int .i64 ((t : Int) + 1)) = w1 at *
      refine (valuesMark_any ((t : Int) + 1) w1 (by omega) (by omega)).mono ?_
      rintro e w2 ⟨rfl, hb2⟩
      have e2 : ((t : Int) + 1).toNat = t + 1 := by omega
      rw [e2]
      have hb3 : Below w1.heap.size w1 (w2.alloc (.cells (vma (t + 1)) 61)) := hb2.trans ((below_alloc4 w2 _).mono hb2.size)
      have HBR0 : Hid ((w2.alloc (.cells (vma (t + 1)) 61)).heap[B]? = some (.cells (C.setIfInBounds 54 (.int .i64 ((t + 1 : Nat) : Int))) 45 (0, 0))) := (hb3.block B (blk_lt HB1.out)).trans HB1.out
      have HROW0 : Hid ((w2.alloc (.cells (vma (t + 1)) 61)).ownsRow base 61 13 (.slice al n capl) n xs) := (Kp.of_below (S := fun _ => False) hb3).owns HO1.out (fun _ _ e => e)
      have HKP0 : Hid (Kp (fun k => k = B ∨ (Value.slice al n capl).ownBlock = some k) w (w2.alloc (.cells (vma (t + 1)) 61))) := HK1.out.trans (Kp.of_below (S := fun _ => False) hb3) (fun _ _ e => e.elim)
      have HX0 : Hid ((w2.alloc (.cells (vma (t + 1)) 61)).heap[w2.heap.size]? = some (.cells (vma (t + 1)) 61 (0, 0))) := heap_alloc_new w2 _
      have HGZ : Hid ((w2.alloc (.cells zv 61)).heap[w2.heap.size]? = some (.cells zv 61 (0, 0))) := heap_alloc_new w2 _
      have HGX : Hid (w.heap.size ≤ w2.heap.size) := Nat.le_trans HK1.out.size hb2.size
      clear hb2 hb3 HB1 HO1 HK1 e2
      go_wp2_with (refine wpList_storeRow rfl rfl w2.heap.size zv (vma (t + 1)) 61 rfl rfl HGZ.out infoV rfl HAL.out ?_; rw [World.setRow_alloc_new]; generalize w2.alloc (.cells (vma (t + 1)) 61) = w3 at *)
      clear HGZ
      generalize w2.heap.size = gx at *
      go_loopw [7] (fun i wr => ∃ k : Nat, k ≤ n ∧ i = .int .i64 k ∧ Hid (wr.heap[B]? = some (.cells (C.setIfInBounds 54 (.int .i64 ((t + 1 : Nat) : Int))) 45 (0, 0))) ∧ Hid (wr.ownsRow base 61 13 (.slice al n capl) n (KV.mkl (t + 1) k ++ xs.drop (k * 13))) ∧ Hid (Kp (fun k => k = B ∨ (Value.slice al n capl).ownBlock = some k) w wr) ∧ Hid (wr.heap[gx]? = some (.cells (vma (t + 1)) 61 (0, 0)))) (fun i _ => n - (intOf i).toNat)
      case atStart => exact ⟨0, Nat.zero_le _, rfl, HBR0, by simpa [Knd.mkl] using HROW0, HKP0, HX0⟩
      case round =>
        obtain ⟨k, hk, rfl, HBR, HROW, HKP, HX⟩ := hrel
        clear HBR0 HROW0 HKP0 HX0
        by_cases hlt : k < n
        · have hlt' : (k : Int) < (n : Int) := by omega
          obtain ⟨g, hg⟩ : ∃ g, al = some ⟨g, 0, none⟩ := by
            rcases HL.out.2 with ⟨_, h0⟩ | ⟨g, _, _, hv, _⟩
            · omega
            · injection hv with hv; exact ⟨g, hv⟩
          subst hg
          obtain ⟨cur, hcur, hcz⟩ : ∃ cur, wr.heap[g]? = some (.cells cur 61 (0, 0)) ∧ n * 13 ≤ cur.size := by
            rcases HROW.out.2 with ⟨e, _⟩ | ⟨g', cap', cur, e, _, h1, h2, _, h3, _⟩
            · cases e
            · injection e with e1 e2 e3
              injection e1 with e1
              injection e1 with e1 _ _
              subst e1
              exact ⟨cur, h1, by rw [h3]; exact Nat.mul_le_mul_right 13 h2⟩
          have HGL : Hid (g < w.heap.size) := (HL.out.lt g rfl).2
          have HXC : Hid (∀ j u, (vma (t + 1))[j]? = some u → wr.cell? ⟨gx, 0 + j, none⟩ = some u) := fun j u hu => by rw [Nat.zero_add]; exact blk_cell HX.out hu
          have HCUR : Hid (wr.heap[g]? = some (.cells cur.toList.toArray 61 (0, 0))) := hcur
          have HLT : Hid (k * 13 + 13 ≤ cur.toList.length) := by show _ ≤ _; simp; omega
          have HST : Hid (∀ w6 : World, w6.heap[g]? = some (.cells (splice cur.toList (k * 13) (vma (t + 1)).toList).toArray 61 (0, 0)) → Kp (fun q => q = g) wr w6 → w6.heap[B]? = some (.cells (C.setIfInBounds 54 (.int .i64 ((t + 1 : Nat) : Int))) 45 (0, 0)) ∧ w6.ownsRow base 61 13 (.slice (some ⟨g, 0, none⟩) n capl) n (KV.mkl (t + 1) (k + 1) ++ xs.drop ((k + 1) * 13)) ∧ Kp (fun k => k = B ∨ (Value.slice (some ⟨g, 0, none⟩) n capl).ownBlock = some k) w w6 ∧ w6.heap[gx]? = some (.cells (vma (t + 1)) 61 (0, 0))) := fun w6 h6 hk6 => by
            refine ⟨(hk6.block B (blk_lt HBR.out) (fun e => HLB.out (by rw [e]; rfl))).trans HBR.out, ?_, HKP.out.trans hk6 (fun q _ e => .inr (by rw [e]; rfl)), (hk6.block gx (blk_lt HX.out) (fun e => by have h1 := HGL.out; have h2 := HGX.out; omega)).trans HX.out⟩
            have h := own_spl (k := k) HROW.out hcur hlt (zs := (vma (t + 1)).toList) rfl h6
            have h1 := spl_step (F := KV) (m := t + 1) (k := k) (xs := xs) (fun _ => rfl)
            have h2 : splice (KV.mkl (t + 1) k ++ xs.drop (k * 13)) (k * 13) (vma (t + 1)).toList = KV.mkl (t + 1) (k + 1) ++ xs.drop ((k + 1) * 13) := h1
            rw [h2] at h
            exact h
          clear hcur hcz HBR HROW HKP HX
          go_wp2_with (first
            | (refine wpList_valAt rfl rfl gx 0 (vma (t + 1)) rfl rfl HXC.out ?_)
            | (refine wpList_storePart rfl rfl g (k * 13) cur.toList (vma (t + 1)).toList 61 rfl rfl HCUR.out infoV HLT.out (vma_one (t + 1)) ?_))
          intro w6 h6 hk6
          obtain ⟨q1, q2, q3, q4⟩ := HST.out w6 h6.out hk6.out
          have HBR2 := hide q1
          have HRO2 := hide q2
          have HKP2 := hide q3
          have HX2 := hide q4
          clear h6 hk6 HST q1 q2 q3 q4
          go_wp2
          go_roundw
          case rel => exact ⟨k + 1, by omega, by go_num, HBR2, HRO2, HKP2, HX2⟩
          case measure => simp [intOf]; omega
        · have hlt' : ¬ (k : Int) < (n : Int) := by omega
          have hkn : k = n := by omega
          have HW : Hid (wr.ownsRow base 61 13 (.slice al n capl) n (KV.mkl (t + 1) n)) := by
            have h := HROW.out
            have hxl : xs.length = n * 13 := HL.out.1
            rw [hkn, List.drop_of_length_le (by omega), List.append_nil] at h
            exact h
          have HCC := hide ((HK.out.c).marked KV_ok HBB.out HL.out HD.out HKP.out)
          clear hkn HROW
          have hu := HU.out
          by_cases hfull : (16777216 : Int) < (u : Int) + (8000 + 300 * (n : Int))
          · have HTF := hide (tightQ_full HBR.out (by rw [get_set_ne (by decide)]; exact HC56.out) (8000 + 300 * (n : Int)) hu (by omega) (by have := HN.out; omega) (by omega))
            go_wp2_with fail
            refine HTF.out.mono ?_
            rintro e w' ⟨rfl, rfl⟩
            go_wp2
            refine bodyPost_ret (results_none rfl _ _ _) rfl ?_
            exact ⟨rfl, HEND.out _ (BkP.full KV_ok HBB.out HJ0.out HJ1.out HC56.out (by decide) H57.out HK.out HL.out HD.out HU.out HBR.out HKP.out)⟩
          · obtain ⟨U, hU⟩ : ∃ U : Nat, U = u + (8000 + 300 * n) := ⟨_, rfl⟩
            have HTR := hide (tightQ_room HBR.out (by rw [get_set_ne (by decide)]; exact HC56.out) (8000 + 300 * (n : Int)) hu (by omega) (by have := HN.out; omega) (by omega) U (by omega))
            have HUU : Hid (u + KV.cost ≤ U ∧ U ≤ 16777216) := ⟨by show u + 8000 ≤ U; omega, by omega⟩
            clear hU
            go_wp2_with fail
            refine HTR.out.mono ?_
            rintro e w2 ⟨rfl, hblk2, hkp2⟩
            have HB2 := hide hblk2
            have HC2 : Hid (Kc KV w2 base vb vo es t) := HCC.out.kp hkp2 (fun q hq e => HCC.out.notB KV_ok HBR.out (by rw [← e]; exact hq))
            have HW2 : Hid (w2.ownsRow base 61 13 (.slice al n capl) n (KV.mkl (t + 1) n)) := hkp2.owns HW.out (fun q hq e => own_not HW.out HBR.out (by decide) (by rw [← e]; exact hq))
            have HK2 : Hid (Kp (fun k => k = B ∨ (Value.slice al n capl).ownBlock = some k) w w2) := HKP.out.trans hkp2 (fun q _ e => .inl e)
            have HBS : Hid (base ≤ w2.heap.size) := Nat.le_trans HBASE.out HK2.out.size
            have hlen : es.length < 1099511627776 := by obtain ⟨c, r, h1, h2, h3⟩ := HK.out.count; simp only [KV] at h2 h3; omega
            have c0 : w2.cell? ⟨B, 30, none⟩ = some vb := blk_cell hblk2 (by rw [get_set_ne (by decide), get_set_ne (by decide)]; exact HJ0.out)
            clear hblk2 hkp2 HCC HW HTR HKP HBR hfull
            go_wp2_with (at_builtin; refine append_lst rfl _ _ 36 59 iL Tryz.underlying36 hiL hzL0 hzL1 hzL2 rfl base vb es.length _ rfl HC2.out.hb _ _ rfl rfl rfl hlen HBS.out ?_)
            intro v3 w3 ho3 hg3 hat3
            obtain ⟨a3, c3, hv3⟩ := own_slice ho3
            obtain ⟨hblk3, hblk4, hhalf, hkp4⟩ := HC2.out.push_a KV_ok HB2.out 30 ⟨Value.slice al n capl, n, t + 1⟩ HW2.out v3 ho3 hg3
            have c0' : w3.cell? ⟨B, 30, none⟩ = some vb := blk_cell hblk3 (by rw [get_set_ne (by decide), get_set_ne (by decide)]; exact HJ0.out)
            have c1' : (w3.setCell ⟨B, 30, none⟩ v3).cell? ⟨B, 31, none⟩ = some vo := blk_cell hblk4 (by rw [get_set_ne (by decide), get_set_ne (by decide), get_set_ne (by decide)]; exact HJ1.out)
            have f0' := blk_frozen 30 hblk3
            have HHF := hide hhalf
            have HKP4 := hide hkp4
            have HB4 := hide hblk4
            have HAT3 : Hid (∀ z, v3.ownBlock = some z → vb.ownBlock = some z ∨ w.heap.size ≤ z) := fun z hz => by
              rcases hat3 with h | h
              · exact .inl (by rw [← h]; exact hz)
              · rw [h] at hz; injection hz with hz; exact .inr (by have := HK2.out.size; omega)
            have HSZ4 : Hid (base ≤ (w3.setCell ⟨B, 30, none⟩ v3).heap.size ∧ w.heap.size ≤ (w3.setCell ⟨B, 30, none⟩ v3).heap.size) := ⟨Nat.le_trans HBS.out hkp4.size, Nat.le_trans HK2.out.size hkp4.size⟩
            have HLEN := hide hlen
            subst hv3
            clear ho3 hg3 hat3 hblk3 hblk4 hhalf hkp4 c0 hlen
            go_wp2_with (at_builtin; go_must (refine append_int rfl _ _ rfl base vo es.length _ rfl HHF.out.ho _ w3.heap.size (by simp) rfl HLEN.out HSZ4.out.1 ?_))
            intro v5 w5 ho5 hg5 hat5
            obtain ⟨a5, c5, hv5⟩ := own_slice ho5
            have e1 : ((t : Int) + 1) = ((t + 1 : Nat) : Int) := by omega
            rw [e1] at ho5 hg5
            obtain ⟨hblk5, hblk6, hbk6, hkp6⟩ := HHF.out.push_b KV_ok (t := t + 1) HB4.out 31 v5 ho5 hg5 HC2.out.hs (fun x hx z h1 h2 => absurd h2 (HD.out x hx z h1)) (fun x hx => ⟨by have := (HC2.out.hm x hx).1; omega, (HC2.out.hm x hx).2⟩) ⟨Nat.le_refl _, by have := HN.out; show n < _; omega⟩
            have c1'' : w5.cell? ⟨B, 31, none⟩ = some vo := blk_cell hblk5 (by rw [get_set_ne (by decide), get_set_ne (by decide), get_set_ne (by decide)]; exact HJ1.out)
            have f1'' := blk_frozen 31 hblk5
            have HFI : Hid (BkP KV 30 w base B C vb vo es a t u (.slice al n capl) (w5.setCell ⟨B, 31, none⟩ v5)) := BkP.kept (by decide) H57.out HK.out HD.out HN.out HUU.out.2 HUU.out.1 HK2.out HKP4.out hkp6 hblk6 hbk6 HAT3.out (fun z hz => by
              rcases hat5 with h | h
              · exact .inl (by rw [← h]; exact hz)
              · rw [h] at hz; injection hz with hz; exact .inr (by have := HSZ4.out.2; simp at this; omega))
            subst hv5
            clear ho5 hg5 hat5 hblk5 hblk6 hbk6 hkp6 e1
            go_wp2
            go_end0
            exact ⟨rfl, HEND.out _ HFI.out⟩
theorem Ots.parts {w : World} {base : Nat} {D : Nat → Prop} {t : Tv} {c : Array Value} (h : Ots w base D t c) : ∃ vy vk vi L E, c = vcs t vy vk vi ∧ Tbd t ∧ w.ownsRow base 5 1 vy t.y.length (bv t.y) ∧ w.ownsRow base 9 1 vk t.ks.length (sv t.ks) ∧ Oti w base D t.is vi L E ∧ (∀ q, vy.ownBlock = some q → D q) ∧ (∀ q, vk.ownBlock = some q → D q) ∧ ∀ i, i < t.is.length → ∀ q, E i q → vy.ownBlock ≠ some q ∧ vk.ownBlock ≠ some q := by
  cases h with
  | mk _ _ vy vk vi L E hbd _ hy hk hv hL h13 hDy hDk hDi hE hdj hcs => exact ⟨vy, vk, vi, L, E, rfl, hbd, hy, hk, ⟨hv, hL, h13, hDi, fun i hi q e => ⟨(hE i hi q e).1, (hE i hi q e).2.2.2⟩, hdj, hcs⟩, hDy, hDk, fun i hi q e => ⟨(hE i hi q e).2.1, (hE i hi q e).2.2.1⟩⟩
end
section
open Go.RowKit Go
theorem bkBytes_any {w : World} {base B : Nat} {C : Array Value} {f : Fin 4 → Fs} {t d u : Nat} (h : Bkq w base B C f t d u) (l : Value) (n : Nat) (xs : List Value) (hl : w.ownsRow base 5 1 l n xs) (hn : n < 68719476736) (hd : ∀ q, l.ownBlock = some q → ¬ Ft4 B f q) (ht : t + 1 < 68719476736) :
    Calls Tryz.prog 27 #[.pointer (some ⟨B, 0, none⟩), l] w fun e w' => e = .returned (.tuple #[]) ∧ Hid (Pt4 w base B f t d (fun q => l.ownBlock = some q) 1 w') :=
  (bytesM_any h.blk h.n (h.r 0).1 (h.r 0).2.1 h.c54 h.c56 (h.k 0) l n xs hl hn (fun e he q h1 h2 => hd q h2 (.inr ⟨0, .inr (.inr ⟨e, he, h1⟩)⟩)) ht h.hu h.sz).mono (fun _ _ h1 => ⟨h1.1, h.put 0 h1.2.out hd ht⟩)
theorem bkTexts_any {w : World} {base B : Nat} {C : Array Value} {f : Fin 4 → Fs} {t d u : Nat} (h : Bkq w base B C f t d u) (l : Value) (n : Nat) (xs : List Value) (hl : w.ownsRow base 9 1 l n xs) (hn : n < 68719476736) (hd : ∀ q, l.ownBlock = some q → ¬ Ft4 B f q) (ht : t + 1 < 68719476736) :
    Calls Tryz.prog 28 #[.pointer (some ⟨B, 0, none⟩), l] w fun e w' => e = .returned (.tuple #[]) ∧ Hid (Pt4 w base B f t d (fun q => l.ownBlock = some q) 1 w') :=
  (textsM_any h.blk h.n (h.r 1).1 (h.r 1).2.1 h.c54 h.c56 (h.k 1) l n xs hl hn (fun e he q h1 h2 => hd q h2 (.inr ⟨1, .inr (.inr ⟨e, he, h1⟩)⟩)) ht h.hu h.sz).mono (fun _ _ h1 => ⟨h1.1, h.put 1 h1.2.out hd ht⟩)
theorem Oti.kp {w w' : World} {base : Nat} {D S : Nat → Prop} {is : List Tv} {vi : Value} {L : List (Array Value)} {E : Nat → Nat → Prop} (h : Oti w base D is vi L E) (hk : Kp S w w') (h1 : ∀ q, vi.ownBlock = some q → ¬ S q) (h2 : ∀ i, i < is.length → ∀ q, E i q → ¬ S q) : Oti w' base D is vi L E :=
  ⟨hk.owns h.hv h1, h.hL, h.h13, h.hD, h.hE, h.hdj, fun i u c e1 e2 => (h.hcs i u c e1 e2).kp hk (h2 i (List.getElem?_eq_some_iff.1 e1).1)⟩
set_option maxRecDepth 1000000 in
set_option maxHeartbeats 1000000 in
theorem bvalue_step (t : Tv) (ih : ∀ u ∈ t.is, BvC u) : BvC t := by
  intro w base B C f tt d u D c hok hots hD hm htt
  obtain ⟨vy, vk, vi, L, E, rfl, hbd, hy, hk, hi, hDy, hDk, hE⟩ := hots.parts
  have hme := tmuch_eq t
  have hb0 := below_alloc4 w (.cells (vcs t vy vk vi) 61)
  have hk0 : Kp (fun _ => False) w (w.alloc (.cells (vcs t vy vk vi) 61)) := Kp.of_below hb0
  have HG0 := hide (heap_alloc_new w (.cells (vcs t vy vk vi) 61))
  have HOK := hide (hok.next hb0)
  have HY := hide (hk0.owns hy (fun _ _ e => e))
  have HKK := hide (hk0.owns hk (fun _ _ e => e))
  have HI := hide (hi.kp hk0 (fun _ _ e => e) (fun _ _ _ _ e => e))
  have HDD : Hid (∀ q, D q → q < w.heap.size ∧ ¬ Ft4 B f q) := hD
  have HFP : Hid (¬ Ft4 B f w.heap.size) := fun e => by have := (hok.lt _ e).2; omega
  have HSZ0 : Hid ((w.alloc (.cells (vcs t vy vk vi) 61)).heap.size = w.heap.size + 1) := by show _ = _; simp
  have HP0 : Hid (∀ L0 n wx, Pt4 (w.alloc (.cells (vcs t vy vk vi) 61)) base B f tt d L0 n wx → (∀ q, L0 q → D q) → Pt4 w base B f tt d D n wx) := fun L0 n wx hp hL => by
    obtain ⟨C', f', u', h1, h2, h3⟩ := hp
    refine ⟨C', f', u', h1, (hk0.mono (fun _ _ e => e.elim)).trans h2 (fun q _ e => e.imp id (hL q)), fun q e => ?_⟩
    rcases h3 q e with h | h | h
    · exact .inl h
    · exact .inr (.inl (hL q h))
    · exact .inr (.inr (Nat.le_trans hb0.size h))
  have HIH := hide ih
  have HDY := hide hDy
  have HDK := hide hDk
  have HEE := hide hE
  have HTT := hide htt
  have hml := tmuchL_len t.is
  have HYL : Hid (t.y.length < 68719476736) := by have := hbd.y; show _ < _; omega
  have HKL : Hid (t.ks.length < 68719476736) := by show _ < _; omega
  have HML : Hid (tmuchL t.is ≤ 10000000 ∧ 1 + tmuchL t.is ≤ tmuch t) := ⟨by omega, by omega⟩
  obtain ⟨ay, cy, hvy⟩ := own_slice hy
  obtain ⟨ak, ck, hvk⟩ := own_slice hk
  obtain ⟨ai, ci, hvi⟩ := own_slice hi.hv
  subst hvy
  subst hvk
  subst hvi
  clear hok hots hD hm hbd htt hy hk hi hDy hDk hE hme hb0 hk0 ih hml
  have HC0 : Hid ((vcs t (.slice ay t.y.length cy) (.slice ak t.ks.length ck) (.slice ai t.is.length ci))[0]? = some (.int .i64 t.k)) := rfl
  have HC6 : Hid ((vcs t (.slice ay t.y.length cy) (.slice ak t.ks.length ck) (.slice ai t.is.length ci))[6]? = some (.slice ay t.y.length cy)) := rfl
  have HC11 : Hid ((vcs t (.slice ay t.y.length cy) (.slice ak t.ks.length ck) (.slice ai t.is.length ci))[11]? = some (.slice ak t.ks.length ck)) := rfl
  have HC12 : Hid ((vcs t (.slice ay t.y.length cy) (.slice ak t.ks.length ck) (.slice ai t.is.length ci))[12]? = some (.slice ai t.is.length ci)) := rfl
  generalize vcs t (.slice ay t.y.length cy) (.slice ak t.ks.length ck) (.slice ai t.is.length ci) = cs at *
  go_enter Tryz.func19, Tryz.ntmps19
  go_upto_region 1 with fail
  generalize w.alloc (.cells cs 61) = w0 at *
  rename_i KR hKR KC hKC
  have HR : Hid (∀ (x4 x5 x6 x7 x8 x9 x10 x11 x12 x13 x14 x15 x16 : Value) (wx : World), Hid (∃ n, n ≤ 1 ∧ Pt4 w0 base B f tt d (fun q => (Value.slice ay t.y.length cy).ownBlock = some q) n wx) → KR { tmps := #[.pointer (some ⟨B, 0, none⟩), .agg cs, undef, .pointer (some ⟨w.heap.size, 0, none⟩), x4, x5, x6, x7, x8, x9, x10, x11, x12, x13, x14, x15, x16, undef, undef, undef, undef, undef, undef, undef, undef, undef, undef, undef, undef, undef, undef, undef, undef, undef, undef, undef, undef, undef, undef, undef, undef, undef, undef, undef, undef, undef, undef, undef], defers := [] } wx) := by
    intro x4 x5 x6 x7 x8 x9 x10 x11 x12 x13 x14 x15 x16 w1 hcut
    refine hKR _ _ ?_
    clear hKC KC hKR
    obtain ⟨n1, hn1, C1, f1, u1, hok1, hk1, hf1⟩ := hcut.out
    have e0 := HSZ0.out
    have hp1 : ¬ Ft4 B f1 w.heap.size := fun e => by
      rcases hf1 _ e with h | h | h
      · exact HFP.out h
      · have := (HDD.out _ (HDY.out _ h)).1
        omega
      · omega
    have hd1 : ∀ q, D q → (Value.slice ay t.y.length cy).ownBlock ≠ some q → ¬ Ft4 B f1 q := fun q hq hne e => by
      have h0 := HDD.out q hq
      rcases hf1 q e with h | h | h
      · exact h0.2 h
      · exact hne h
      · omega
    have HN1 := hide hn1
    have HOK1 := hide hok1
    have HG1 : Hid (w1.heap[w.heap.size]? = some (.cells cs 61 (0, 0))) := (hk1.block _ (blk_lt HG0.out) (fun e => by
      rcases e with e | e
      · exact HFP.out e
      · have := (HDD.out _ (HDY.out _ e)).1
        omega)).trans HG0.out
    have HK1 : Hid (w1.ownsRow base 9 1 (.slice ak t.ks.length ck) t.ks.length (sv t.ks)) := hk1.owns HKK.out (fun q hq e => by
      rcases e with e | e
      · exact (HDD.out q (HDK.out q hq)).2 e
      · exact own_apart HKK.out HY.out (by decide) hq e)
    have HI1 : Hid (Oti w1 base D t.is (.slice ai t.is.length ci) L E) := HI.out.kp hk1 (fun q hq e => by
      rcases e with e | e
      · exact (HDD.out q (HI.out.hD q hq)).2 e
      · exact own_apart HI.out.hv HY.out (by decide) hq e) (fun i hi q hq e => by
      rcases e with e | e
      · exact (HDD.out q (HI.out.hE i hi q hq).1).2 e
      · exact (HEE.out i hi q hq).1 e)
    have HP1 : Hid (Pt4 w0 base B f tt d (fun q => (Value.slice ay t.y.length cy).ownBlock = some q) n1 w1) := ⟨C1, f1, u1, hok1, hk1, hf1⟩
    have HD1 := hide hd1
    have HFP1 : Hid (¬ Ft4 B f1 w.heap.size) := hp1
    have HK01 := hide hk1
    have HF01 := hide hf1
    have HSZ1 : Hid (w0.heap.size ≤ w1.heap.size) := hk1.size
    have HDK1 : Hid (∀ q, (Value.slice ak t.ks.length ck).ownBlock = some q → ¬ Ft4 B f1 q) := fun q hq => hd1 q (HDK.out q hq) (fun e => own_apart HKK.out HY.out (by decide) hq e)
    clear hn1 hok1 hk1 hf1 hp1 hd1 hcut e0
    go_upto_region 3 with fail
    rename_i KR2 hKR2 KC2 hKC2
    have HR2 : Hid (∀ (x17 x18 x19 x20 x21 x22 x23 x24 x25 x26 x27 x28 x29 : Value) (wx : World), Hid (∃ n, n ≤ 1 ∧ Pt4 w1 base B f1 (tt + n1) d (fun q => (Value.slice ak t.ks.length ck).ownBlock = some q) n wx) → KR2 { tmps := #[.pointer (some ⟨B, 0, none⟩), .agg cs, undef, .pointer (some ⟨w.heap.size, 0, none⟩), x4, x5, x6, x7, x8, x9, x10, x11, x12, x13, x14, x15, x16, x17, x18, x19, x20, x21, x22, x23, x24, x25, x26, x27, x28, x29, undef, undef, undef, undef, undef, undef, undef, undef, undef, undef, undef, undef, undef, undef, undef, undef, undef, undef], defers := [] } wx) := by
      intro x17 x18 x19 x20 x21 x22 x23 x24 x25 x26 x27 x28 x29 w2 hcut
      refine hKR2 _ _ ?_
      clear hKC2 KC2 hKR2
      obtain ⟨n2, hn2, hp2⟩ := hcut.out
      have HP2 : Hid (Pt4 w0 base B f tt d D (n1 + n2) w2) := Pt4.trans HK01.out HF01.out hp2 (fun q e => HDY.out q e) (fun q e => HDK.out q e)
      obtain ⟨C2, f2, u2, hok2, hk2, hf2⟩ := hp2
      have e0 := HSZ0.out
      have e1 := HSZ1.out
      have HN2 : Hid (n1 + n2 ≤ 2) := by have := HN1.out; show _ ≤ _; omega
      have HOK2 : Hid (Bkq w2 base B C2 f2 (tt + (n1 + n2)) d u2) := by rw [← Nat.add_assoc]; exact hok2
      have HG2 : Hid (w2.heap[w.heap.size]? = some (.cells cs 61 (0, 0))) := (hk2.block _ (blk_lt HG1.out) (fun e => by
        rcases e with e | e
        · exact HFP1.out e
        · have := (HDD.out _ (HDK.out _ e)).1
          omega)).trans HG1.out
      have HI2 : Hid (Oti w2 base (fun q => D q ∧ (Value.slice ay t.y.length cy).ownBlock ≠ some q ∧ (Value.slice ak t.ks.length ck).ownBlock ≠ some q) t.is (.slice ai t.is.length ci) L E) := by
        have h := HI1.out.kp hk2 (fun q hq e => by
          rcases e with e | e
          · exact HD1.out q (HI.out.hD q hq) (fun e2 => own_apart HI.out.hv HY.out (by decide) hq e2) e
          · exact own_apart HI1.out.hv HK1.out (by decide) hq e) (fun i hi q hq e => by
          rcases e with e | e
          · exact HD1.out q (HI.out.hE i hi q hq).1 (HEE.out i hi q hq).1 e
          · exact (HEE.out i hi q hq).2 e)
        exact ⟨h.hv, h.hL, h.h13, fun q hq => ⟨h.hD q hq, fun e2 => own_apart HI.out.hv HY.out (by decide) hq e2, fun e2 => own_apart HI1.out.hv HK1.out (by decide) hq e2⟩, fun i hi q hq => ⟨⟨(h.hE i hi q hq).1, (HEE.out i hi q hq).1, (HEE.out i hi q hq).2⟩, (h.hE i hi q hq).2⟩, h.hdj, h.hcs⟩
      have HD2 : Hid (∀ q, D q ∧ (Value.slice ay t.y.length cy).ownBlock ≠ some q ∧ (Value.slice ak t.ks.length ck).ownBlock ≠ some q → q < w2.heap.size ∧ ¬ Ft4 B f2 q) := fun q hq => by
        have h0 := HDD.out q hq.1
        have hz := hk2.size
        refine ⟨by omega, fun e => ?_⟩
        rcases hf2 q e with h | h | h
        · exact HD1.out q hq.1 hq.2.1 h
        · exact hq.2.2 h
        · omega
      have HCA := hide (bvalues_any t.is HIH.out w2 base B C2 f2 (tt + (n1 + n2)) d u2 _ (.slice ai t.is.length ci) L E HOK2.out HI2.out HD2.out HML.out.1 (by have h1 := HTT.out; have h2 := HML.out; have h3 := HN2.out; omega))
      have HEND : Hid (∀ n3 wx, n3 ≤ 3 * tmuchL t.is + 1 → Pt4 w2 base B f2 (tt + (n1 + n2)) d (fun q => D q ∧ (Value.slice ay t.y.length cy).ownBlock ≠ some q ∧ (Value.slice ak t.ks.length ck).ownBlock ≠ some q) n3 wx → ∃ n, n ≤ 3 * tmuch t ∧ Pt4 w base B f tt d D n wx) := fun n3 wx hn3 hp3 => by
        have hkk : Kp (fun q => Ft4 B f q ∨ D q) w0 w2 := (HK01.out.mono (fun q _ e => e.imp id (HDY.out q))).trans hk2 (fun q hq e => by
          rcases e with e | e
          · rcases HF01.out q e with h | h | h
            · exact .inl h
            · exact .inr (HDY.out q h)
            · omega
          · exact .inr (HDK.out q e))
        have hff : ∀ q, Ft4 B f2 q → Ft4 B f q ∨ D q ∨ w0.heap.size ≤ q := fun q e => by
          rcases hf2 q e with h | h | h
          · rcases HF01.out q h with h | h | h
            · exact .inl h
            · exact .inr (.inl (HDY.out q h))
            · exact .inr (.inr h)
          · exact .inr (.inl (HDK.out q h))
          · exact .inr (.inr (Nat.le_trans e1 h))
        exact ⟨n1 + n2 + n3, by have h2 := HML.out; have h3 := HN2.out; omega, HP0.out D _ wx (Pt4.trans hkk hff hp3 (fun q e => e) (fun q e => e.1)) (fun q e => e)⟩
      have HNO : Hid (∃ n, n ≤ 3 * tmuch t ∧ Pt4 w base B f tt d D n w2) := ⟨n1 + n2, by have h2 := HML.out; have h3 := HN2.out; omega, HP0.out D _ w2 HP2.out (fun q e => e)⟩
      have q0 := blk_cell HG2.out HC0.out
      have q12 := blk_cell HG2.out HC12.out
      clear hn2 hok2 hk2 hf2 hcut e0 e1
      by_cases h8 : t.k = 8
      · as_aux_lemma =>
        have g8 : (t.k == 8) = true := beq_iff_eq.2 h8
        clear h8
        go_wp2_with fail
        refine HCA.out.mono ?_
        rintro e w3 ⟨rfl, hp⟩
        obtain ⟨n3, hn3, hp3⟩ := hp.out
        have HFI := hide (HEND.out n3 w3 hn3 hp3)
        clear hp hn3 hp3
        go_wp2
        go_end0
        exact ⟨rfl, HFI⟩
      have g8 : (t.k == 8) = false := beq_eq_false_iff_ne.2 h8
      by_cases h9 : t.k = 9
      · as_aux_lemma =>
        have g9 : (t.k == 9) = true := beq_iff_eq.2 h9
        clear h8 h9
        go_wp2_with fail
        refine HCA.out.mono ?_
        rintro e w3 ⟨rfl, hp⟩
        obtain ⟨n3, hn3, hp3⟩ := hp.out
        have HFI := hide (HEND.out n3 w3 hn3 hp3)
        clear hp hn3 hp3
        go_wp2
        go_end0
        exact ⟨rfl, HFI⟩
      have g9 : (t.k == 9) = false := beq_eq_false_iff_ne.2 h9
      clear h8 h9
      by_cases hi0 : 0 < t.is.length
      · as_aux_lemma =>
        have gi : (0 : Int) < (t.is.length : Int) := by omega
        go_wp2_with fail
        refine HCA.out.mono ?_
        rintro e w3 ⟨rfl, hp⟩
        obtain ⟨n3, hn3, hp3⟩ := hp.out
        have HFI := hide (HEND.out n3 w3 hn3 hp3)
        clear hp hn3 hp3
        go_wp2
        go_end0
        exact ⟨rfl, HFI⟩
      · as_aux_lemma =>
        have gi : ¬ (0 : Int) < (t.is.length : Int) := by omega
        go_wp2
        go_end0
        exact ⟨rfl, HNO⟩
    clear hKR2
    have q0 := blk_cell HG1.out HC0.out
    have q11 := blk_cell HG1.out HC11.out
    have HCA := hide (bkTexts_any HOK1.out (.slice ak t.ks.length ck) t.ks.length _ HK1.out HKL.out HDK1.out (by have h1 := HTT.out; have h2 := HML.out; have h3 := HN1.out; omega))
    have HN0 : Hid (∃ n, n ≤ 1 ∧ Pt4 w1 base B f1 (tt + n1) d (fun q => (Value.slice ak t.ks.length ck).ownBlock = some q) n w1) := ⟨0, by omega, Pt4.none HOK1.out _⟩
    by_cases h6 : t.k = 9
    · have g6 : (t.k == 9) = true := beq_iff_eq.2 h6
      clear h6
      go_wp2_with fail
      refine HCA.out.mono ?_
      rintro e w2 ⟨rfl, hp⟩
      have HP2 : Hid (∃ n, n ≤ 1 ∧ Pt4 w1 base B f1 (tt + n1) d (fun q => (Value.slice ak t.ks.length ck).ownBlock = some q) n w2) := ⟨1, by omega, hp.out⟩
      clear hp
      go_wp2_with fail
      exact HR2.out _ _ _ _ _ _ _ _ _ _ _ _ _ _ HP2
    · have g6 : (t.k == 9) = false := beq_eq_false_iff_ne.2 h6
      clear h6
      by_cases hy0 : 0 < t.ks.length
      · have gy : (0 : Int) < (t.ks.length : Int) := by omega
        go_wp2_with fail
        refine HCA.out.mono ?_
        rintro e w2 ⟨rfl, hp⟩
        have HP2 : Hid (∃ n, n ≤ 1 ∧ Pt4 w1 base B f1 (tt + n1) d (fun q => (Value.slice ak t.ks.length ck).ownBlock = some q) n w2) := ⟨1, by omega, hp.out⟩
        clear hp
        go_wp2_with fail
        exact HR2.out _ _ _ _ _ _ _ _ _ _ _ _ _ _ HP2
      · have gy : ¬ (0 : Int) < (t.ks.length : Int) := by omega
        go_wp2_with fail
        exact HR2.out _ _ _ _ _ _ _ _ _ _ _ _ _ _ HN0
  clear hKR
  have q0 := blk_cell HG0.out HC0.out
  have q6 := blk_cell HG0.out HC6.out
  have HCA := hide (bkBytes_any HOK.out (.slice ay t.y.length cy) t.y.length _ HY.out HYL.out (fun q e => (HDD.out q (HDY.out q e)).2) (by have h1 := HTT.out; have h2 := HML.out; omega))
  have HN0 : Hid (∃ n, n ≤ 1 ∧ Pt4 w0 base B f tt d (fun q => (Value.slice ay t.y.length cy).ownBlock = some q) n w0) := ⟨0, by omega, Pt4.none HOK.out _⟩
  by_cases h6 : t.k = 6
  · have g6 : (t.k == 6) = true := beq_iff_eq.2 h6
    clear h6
    go_wp2_with fail
    refine HCA.out.mono ?_
    rintro e w1 ⟨rfl, hp⟩
    have HP1 : Hid (∃ n, n ≤ 1 ∧ Pt4 w0 base B f tt d (fun q => (Value.slice ay t.y.length cy).ownBlock = some q) n w1) := ⟨1, by omega, hp.out⟩
    clear hp
    go_wp2_with fail
    exact HR.out _ _ _ _ _ _ _ _ _ _ _ _ _ _ HP1
  · have g6 : (t.k == 6) = false := beq_eq_false_iff_ne.2 h6
    clear h6
    by_cases hy0 : 0 < t.y.length
    · have gy : (0 : Int) < (t.y.length : Int) := by omega
      go_wp2_with fail
      refine HCA.out.mono ?_
      rintro e w1 ⟨rfl, hp⟩
      have HP1 : Hid (∃ n, n ≤ 1 ∧ Pt4 w0 base B f tt d (fun q => (Value.slice ay t.y.length cy).ownBlock = some q) n w1) := ⟨1, by omega, hp.out⟩
      clear hp
      go_wp2_with fail
      exact HR.out _ _ _ _ _ _ _ _ _ _ _ _ _ _ HP1
    · have gy : ¬ (0 : Int) < (t.y.length : Int) := by omega
      go_wp2_with fail
      exact HR.out _ _ _ _ _ _ _ _ _ _ _ _ _ _ HN0
theorem bvalue_any (t : Tv) : BvC t := by
  have h : ∀ N, ∀ t : Tv, SizeOf.sizeOf t = N → BvC t := by
    intro N
    induction N using Nat.strongRecOn with
    | _ N ih => exact fun t hN => bvalue_step t (fun u hu => ih _ (by rw [← hN]; exact Tv.is_lt hu) u rfl)
  exact h _ t rfl
/-- A new book. -/
theorem bk4_new (w : World) : Bk4 (w.alloc (.cells (bookCells (.slice none 0 0) (.slice none 0 0) 0 0 0 0) 45)) w.heap.size w.heap.size (fun q => q = w.heap.size) 0 := by
  refine ⟨_, fun _ => ⟨.slice none 0 0, .slice none 0 0, [], 0⟩, 0, 0, ⟨heap_alloc_new w _, rfl, rfl, rfl, rfl, fun i => ?_, fun k hk => ?_, fun i => Ko.none _ _ _ _ _, (fun _ _ _ _ h => by cases h), Nat.le_refl _, by decide, by decide⟩, fun q hq => ?_⟩
  · match i with
    | 0 => exact ⟨rfl, rfl, rfl⟩
    | 1 => exact ⟨rfl, rfl, rfl⟩
    | 2 => exact ⟨rfl, rfl, rfl⟩
    | 3 => exact ⟨rfl, rfl, rfl⟩
  · rcases hk with rfl | rfl | rfl | rfl | rfl | rfl | rfl | rfl | rfl | rfl | rfl | rfl | rfl | rfl <;> exact ⟨rfl, rfl⟩
  · rcases hq with h | ⟨i, h | h | ⟨e, he, h⟩⟩
    · exact h
    · cases h
    · cases h
    · cases he
end
section
open Go.RowKit Go
theorem Tin.all1 {w : World} {t : Tv} {c : Array Value} (h : Tin w t c) : c.all (·.oneCell') = true := by
  obtain ⟨vy, vk, vi, rfl, hy, hk, hv, _⟩ := h.parts
  obtain ⟨⟨ay, cy, rfl, _, _⟩, _⟩ := hy
  obtain ⟨⟨ak, ck, rfl, _, _⟩, _, _⟩ := hk
  obtain ⟨⟨ai, ci, rfl, _, _⟩, _⟩ := hv
  kernel_rfl
theorem Tin.size13 {w : World} {t : Tv} {c : Array Value} (h : Tin w t c) : c.size = 13 := by
  obtain ⟨vy, vk, vi, rfl, _⟩ := h.parts
  rfl
end
section
open Go.RowKit Go
theorem cell_lt6 {w : World} {a : Addr} {v : Value} (h : w.cell? a = some v) : a.block < w.heap.size := by
  rcases Nat.lt_or_ge a.block w.heap.size with h1 | h1
  · exact h1
  · unfold World.cell? at h
    rw [Array.getElem?_eq_none h1] at h
    cases h
/-! A value in memory that does not lie in a set of blocks. -/
inductive Tis (w : World) (S : Nat → Prop) : Tv → Array Value → Prop
  | mk (t : Tv) (vy vk vi : Value) (hb : Tbd t) (hy : BSl w vy t.y) (hys : t.y ≠ [] → ∀ q, vy.ownBlock = some q → ¬ S q) (hk : SSl w vk t.ks) (hks : t.ks ≠ [] → ∀ q, vk.ownBlock = some q → ¬ S q)
      (cs : Nat → Array Value) (a : Option Addr) (cap : Nat) (hv : vi = .slice a t.is.length cap) (hc : t.is.length ≤ cap ∧ (a = none → cap = 0)) (hm : t.is.length ≤ 140737488351232) (hi : ∀ i u, t.is[i]? = some u → Tis w S u (cs i))
      (ha : t.is = [] ∨ ∃ b off, a = some ⟨b, off, none⟩ ∧ ¬ S b ∧ ∀ i, i < t.is.length → ∀ j u, (cs i)[j]? = some u → w.cell? ⟨b, off + i * 13 + j, none⟩ = some u) : Tis w S t (vcs t vy vk vi)
theorem Tis.tin {w : World} {S : Nat → Prop} {t : Tv} {c : Array Value} (h : Tis w S t c) : Tin w t c := by
  induction h with
  | mk t vy vk vi hb hy hys hk hks cs a cap hv hc hm hi ha ih =>
    subst hv
    refine Tin.mk t vy vk a cap cs hb.n hb.b hb.s hy hb.y hb.l hb.d hk hc hm ih ?_
    rcases ha with ha | ⟨b, off, e, _, ha⟩
    · exact .inl ha
    · exact .inr ⟨b, off, e, ha⟩
theorem bsl_nil6 {w w' : World} {v : Value} (h : BSl w v []) : BSl w' v [] := by
  obtain ⟨⟨a, c, hv, hn, hc⟩, h1, h2⟩ := h
  exact ⟨⟨a, c, hv, hn, .inl rfl⟩, h1, h2⟩
theorem ssl_nil6 {w w' : World} {v : Value} (h : SSl w v []) : SSl w' v [] := by
  obtain ⟨⟨a, c, hv, hn, hc⟩, h1, h2⟩ := h
  exact ⟨⟨a, c, hv, hn, .inl rfl⟩, h1, h2⟩
theorem Kp.ssl {S : Nat → Prop} {w w' : World} (h : Kp S w w') {v : Value} {ks : List ByteArray} (hb : SSl w v ks) (hs : ∀ k, v.ownBlock = some k → ¬ S k) : SSl w' v ks := by
  obtain ⟨⟨a, c, hv, hn, hc⟩, h1, h2⟩ := hb
  refine ⟨⟨a, c, hv, hn, ?_⟩, h1, h2⟩
  rcases hc with hc | ⟨b, off, ha, hc⟩
  · exact .inl hc
  · refine .inr ⟨b, off, ha, fun j s hj => h.cell (hc j s hj) (hs b ?_)⟩
    rw [hv, ha]
    rfl
theorem Tis.kp {w w' : World} {S : Nat → Prop} {t : Tv} {c : Array Value} (h : Tis w S t c) (hk : Kp S w w') : Tis w' S t c := by
  induction h with
  | mk t vy vk vi hb hy hys hkk hks cs a cap hv hc hm hi ha ih =>
    refine Tis.mk t vy vk vi hb ?_ hys ?_ hks cs a cap hv hc hm ih ?_
    · by_cases e : t.y = []
      · rw [e] at hy ⊢
        exact bsl_nil6 hy
      · exact hk.bsl hy (hys e)
    · by_cases e : t.ks = []
      · rw [e] at hkk ⊢
        exact ssl_nil6 hkk
      · exact hk.ssl hkk (hks e)
    · rcases ha with ha | ⟨b, off, e, hs, ha⟩
      · exact .inl ha
      · exact .inr ⟨b, off, e, hs, fun i hi j u hu => hk.cell (ha i hi j u hu) hs⟩
theorem Tis.mono {w : World} {S T : Nat → Prop} {t : Tv} {c : Array Value} (h : Tis w S t c) (hs : ∀ q, T q → S q) : Tis w T t c := by
  induction h with
  | mk t vy vk vi hb hy hys hk hks cs a cap hv hc hm hi ha ih =>
    refine Tis.mk t vy vk vi hb hy (fun e q hq h => hys e q hq (hs q h)) hk (fun e q hq h => hks e q hq (hs q h)) cs a cap hv hc hm ih ?_
    rcases ha with ha | ⟨b, off, e, h1, ha⟩
    · exact .inl ha
    · exact .inr ⟨b, off, e, fun h => h1 (hs b h), ha⟩
/-- Nor does it lie in what is made later. -/
theorem Tis.widen {w : World} {S : Nat → Prop} {t : Tv} {c : Array Value} (h : Tis w S t c) : Tis w (fun q => S q ∨ w.heap.size ≤ q) t c := by
  induction h with
  | mk t vy vk vi hb hy hys hk hks cs a cap hv hc hm hi ha ih =>
    have hi2 := hi
    refine Tis.mk t vy vk vi hb hy ?_ hk ?_ cs a cap hv hc hm ih ?_
    · intro e q hq h
      rcases h with h | h
      · exact hys e q hq h
      · obtain ⟨⟨a', c', hv', _, hcc⟩, _, _⟩ := hy
        obtain ⟨b, off, ha', hcd⟩ := hcc.resolve_left e
        subst hv'
        subst ha'
        have e3 : b = q := by simpa [Value.ownBlock] using hq
        subst e3
        have hl : 0 < t.y.length := List.length_pos_iff.2 e
        have h1 := cell_lt6 (hcd 0 hl)
        simp only at h1
        omega
    · intro e q hq h
      rcases h with h | h
      · exact hks e q hq h
      · obtain ⟨⟨a', c', hv', _, hcc⟩, _, _⟩ := hk
        obtain ⟨b, off, ha', hcd⟩ := hcc.resolve_left e
        subst hv'
        subst ha'
        have e3 : b = q := by simpa [Value.ownBlock] using hq
        subst e3
        obtain ⟨s, hs0⟩ : ∃ s, t.ks[0]? = some s := by
          cases hks' : t.ks with
          | nil => exact absurd hks' e
          | cons s r => exact ⟨s, rfl⟩
        have h1 := cell_lt6 (hcd 0 s hs0)
        simp only at h1
        omega
    · rcases ha with ha | ⟨b, off, e, hs, ha⟩
      · exact .inl ha
      · by_cases e2 : t.is = []
        · exact .inl e2
        · refine .inr ⟨b, off, e, fun h => ?_, ha⟩
          rcases h with h | h
          · exact hs h
          · have hl : 0 < t.is.length := List.length_pos_iff.2 e2
            have hz := (hi2 0 _ (List.getElem?_eq_getElem hl)).tin.size13
            have h1 := cell_lt6 (ha 0 hl 0 ((cs 0)[0]'(by omega)) (Array.getElem?_eq_getElem (by omega)))
            simp only at h1
            omega
end
section
open Go.RowKit Go
/-- A value in new memory all of whose lists have blocks of their own, within D. -/
inductive Nos (w : World) (lo : Nat) : (Nat → Prop) → Tv → Array Value → Prop
  | mk (D : Nat → Prop) (t : Tv) (vy vk vi : Value) (L : List (Array Value)) (E : Nat → Nat → Prop) (hbd : Tbd t) (hyb : ∀ x ∈ t.y, x < 256) (hy : w.ownsRow lo 5 1 vy t.y.length (bv t.y)) (hk : w.ownsRow lo 9 1 vk t.ks.length (sv t.ks)) (hkl : t.ks.length ≤ 140737488351232) (hks : ∀ s ∈ t.ks, s.size ≤ 140737488351232) (hv : w.ownsRow lo 61 13 vi t.is.length (vfl L)) (hil : t.is.length ≤ 140737488351232) (hL : L.length = t.is.length) (h13 : ∀ c ∈ L, one13 c)
      (hDy : ∀ q, vy.ownBlock = some q → D q) (hDk : ∀ q, vk.ownBlock = some q → D q) (hDi : ∀ q, vi.ownBlock = some q → D q)
      (hE : ∀ i, i < t.is.length → ∀ q, E i q → D q ∧ vy.ownBlock ≠ some q ∧ vk.ownBlock ≠ some q ∧ vi.ownBlock ≠ some q) (hdj : ∀ i j, i < j → j < t.is.length → ∀ q, E i q → ¬ E j q)
      (hcs : ∀ (i : Nat) (u : Tv) (c : Array Value), t.is[i]? = some u → L[i]? = some c → Nos w lo (E i) u c) : Nos w lo D t (vcs t vy vk vi)
theorem Nos.ots {w : World} {lo : Nat} {D : Nat → Prop} {t : Tv} {c : Array Value} (h : Nos w lo D t c) : Ots w lo D t c := by
  induction h with
  | mk D t vy vk vi L E hbd hyb hy hk hkl hks hv hil hL h13 hDy hDk hDi hE hdj hcs ih =>
    exact Ots.mk D t vy vk vi L E hbd hyb hy hk hv hL h13 hDy hDk hDi hE hdj ih
theorem Nos.ntv {w : World} {lo hi : Nat} {D : Nat → Prop} {t : Tv} {c : Array Value} (h : Nos w lo D t c) : (∀ q, D q → q < hi) → Ntv w lo hi t c := by
  induction h with
  | mk D t vy vk vi L E hbd hyb hy hk hkl hks hv hil hL h13 hDy hDk hDi hE hdj hcs ih =>
    intro hD
    exact Ntv.mk t vy vk vi L hbd hyb hy (fun q e => hD q (hDy q e)) hk (fun q e => hD q (hDk q e)) hkl hks hv (fun q e => hD q (hDi q e)) hil hL (fun c hc => (h13 c hc).1) (fun i u c h1 h2 => ih i u c h1 h2 (fun q e => hD q (hE i (List.getElem?_eq_some_iff.1 h1).1 q e).1))
theorem Nos.kp {w w' : World} {lo : Nat} {D S : Nat → Prop} {t : Tv} {c : Array Value} (h : Nos w lo D t c) (hk : Kp S w w') : (∀ q, D q → ¬ S q) → Nos w' lo D t c := by
  induction h with
  | mk D t vy vk vi L E hbd hyb hy hkk hkl hks hv hil hL h13 hDy hDk hDi hE hdj hcs ih =>
    intro hs
    exact Nos.mk D t vy vk vi L E hbd hyb (hk.owns hy (fun q e => hs q (hDy q e))) (hk.owns hkk (fun q e => hs q (hDk q e))) hkl hks (hk.owns hv (fun q e => hs q (hDi q e))) hil hL h13 hDy hDk hDi hE hdj (fun i u c h1 h2 => ih i u c h1 h2 (fun q e => hs q (hE i (List.getElem?_eq_some_iff.1 h1).1 q e).1))
theorem Nos.base {w : World} {lo lo' : Nat} {D : Nat → Prop} {t : Tv} {c : Array Value} (h : Nos w lo D t c) (hl : lo' ≤ lo) : Nos w lo' D t c := by
  induction h with
  | mk D t vy vk vi L E hbd hyb hy hk hkl hks hv hil hL h13 hDy hDk hDi hE hdj hcs ih =>
    exact Nos.mk D t vy vk vi L E hbd hyb (own_mono hy hl) (own_mono hk hl) hkl hks (own_mono hv hl) hil hL h13 hDy hDk hDi hE hdj ih
theorem Nos.mono {w : World} {lo lo' : Nat} {D D' : Nat → Prop} {t : Tv} {c : Array Value} (h : Nos w lo D t c) (hl : lo' ≤ lo) (hD : ∀ q, D q → D' q) : Nos w lo' D' t c := by
  cases h.base hl with
  | mk _ _ vy vk vi L E hbd hyb hy hk hkl hks hv hil hL h13 hDy hDk hDi hE hdj hcs =>
    exact Nos.mk D' t vy vk vi L E hbd hyb hy hk hkl hks hv hil hL h13 (fun q e => hD q (hDy q e)) (fun q e => hD q (hDk q e)) (fun q e => hD q (hDi q e)) (fun i hi q e => ⟨hD q (hE i hi q e).1, (hE i hi q e).2⟩) hdj hcs
/-- The same, within a range. -/
def Nor (w : World) (lo hi : Nat) (t : Tv) (c : Array Value) : Prop := Nos w lo (fun q => lo ≤ q ∧ q < hi) t c
theorem Nor.ntv {w : World} {lo hi : Nat} {t : Tv} {c : Array Value} (h : Nor w lo hi t c) : Ntv w lo hi t c := Nos.ntv h (fun _ e => e.2)
theorem Nor.tin {w : World} {lo hi : Nat} {t : Tv} {c : Array Value} (h : Nor w lo hi t c) : Tin w t c := h.ntv.tin
theorem Nor.size {w : World} {lo hi : Nat} {t : Tv} {c : Array Value} (h : Nor w lo hi t c) : c.size = 13 := h.ntv.size
theorem Nor.kp {w w' : World} {lo hi : Nat} {t : Tv} {c : Array Value} {S : Nat → Prop} (h : Nor w lo hi t c) (hk : Kp S w w') (hs : ∀ q, lo ≤ q → q < hi → ¬ S q) : Nor w' lo hi t c := Nos.kp h hk (fun q e => hs q e.1 e.2)
theorem Nor.kept {w w' : World} {lo hi : Nat} {t : Tv} {c : Array Value} (h : Nor w lo hi t c) (hb : Below w.heap.size w w') : Nor w' lo hi t c := h.kp (Kp.of_below (S := fun _ => False) hb) (fun _ _ _ h => h)
theorem Nor.mono {w : World} {lo hi lo' hi' : Nat} {t : Tv} {c : Array Value} (h : Nor w lo hi t c) (h1 : lo' ≤ lo) (h2 : hi ≤ hi') : Nor w lo' hi' t c := Nos.mono h h1 (fun _ e => ⟨Nat.le_trans h1 e.1, Nat.lt_of_lt_of_le e.2 h2⟩)
end
section
open Go.RowKit
/-! ### Heads, plainly -/
def hinfo (n : Nat) : Nat := if n < 24 then n else if n < 256 then 24 else if n < 65536 then 25 else if n < 4294967296 then 26 else 27
def hwide (i : Nat) : Nat := if i = 24 then 1 else if i = 25 then 2 else if i = 26 then 4 else if i = 27 then 8 else 0
/-- A number in so many bytes, the highest first. -/
def be : Nat → Nat → List Nat
  | 0, _ => []
  | k + 1, n => (n / 256 ^ k % 256) :: be k n
def hl (m n : Nat) : List Nat := (32 * m + hinfo n) :: be (hwide (hinfo n)) n
def hlay (m : Int) (n : Nat) : List Nat := if 0 ≤ m ∧ m ≤ 7 then hl m.toNat n else []
def hsize (n : Nat) : Nat := 1 + hwide (hinfo n)
/-- The number that bytes are, the highest first. -/
def bnum : Nat → List Nat → Nat
  | a, [] => a
  | a, x :: r => bnum (256 * a + x) r

structure HR where
  m : Nat
  i : Nat
  n : Nat
  u : Nat
  s : Bool
  e : Nat
def HR.bad (e : Nat) : HR := ⟨0, 0, 0, 0, false, e⟩
def HR.val (r : HR) : Value := .agg #[.int .i64 (r.m : Nat), .int .i64 (r.i : Nat), .int .u64 (r.n : Nat), .int .i64 (r.u : Nat), .bool r.s]
def hrd : List Nat → HR
  | [] => .bad 20
  | x :: r =>
    if 27 < x % 32 then (if x % 32 = 31 ∧ x / 32 ≠ 0 ∧ x / 32 ≠ 1 ∧ x / 32 ≠ 6 then ⟨x / 32, 31, 0, 1, true, 0⟩ else .bad 21)
    else if x % 32 < 24 then ⟨x / 32, x % 32, x % 32, 1, true, 0⟩
    else if r.length < hwide (x % 32) then .bad 20
    else if x / 32 = 7 ∧ x % 32 = 24 ∧ bnum 0 (r.take (hwide (x % 32))) < 32 then .bad 21
    else ⟨x / 32, x % 32, bnum 0 (r.take (hwide (x % 32))), 1 + hwide (x % 32), decide (x / 32 = 7) || decide (1 + hwide (x % 32) = hsize (bnum 0 (r.take (hwide (x % 32))))), 0⟩

theorem hinfo_cases (n : Nat) : (n < 24 ∧ hinfo n = n) ∨ (24 ≤ n ∧ n < 256 ∧ hinfo n = 24) ∨ (256 ≤ n ∧ n < 65536 ∧ hinfo n = 25) ∨ (65536 ≤ n ∧ n < 4294967296 ∧ hinfo n = 26) ∨ (4294967296 ≤ n ∧ hinfo n = 27) := by
  unfold hinfo
  by_cases h1 : n < 24
  · rw [if_pos h1]; omega
  · rw [if_neg h1]
    by_cases h2 : n < 256
    · rw [if_pos h2]; omega
    · rw [if_neg h2]
      by_cases h3 : n < 65536
      · rw [if_pos h3]; omega
      · rw [if_neg h3]
        by_cases h4 : n < 4294967296
        · rw [if_pos h4]; omega
        · rw [if_neg h4]; omega
theorem hwide_small {i : Nat} (h : i < 24) : hwide i = 0 := by
  unfold hwide
  rw [if_neg (by omega), if_neg (by omega), if_neg (by omega), if_neg (by omega)]
theorem be_len : ∀ k n, (be k n).length = k
  | 0, _ => rfl
  | k + 1, n => by simp [be, be_len k n]
theorem be_byte : ∀ k n x, x ∈ be k n → x < 256
  | 0, _, _, h => by simp [be] at h
  | k + 1, n, x, h => by
    rcases List.mem_cons.1 h with h | h
    · subst h; exact Nat.mod_lt _ (by decide)
    · exact be_byte k n x h
theorem hinfo_lt (n : Nat) : hinfo n < 28 := by unfold hinfo; repeat (first | omega | split)
theorem hwide_le (i : Nat) : hwide i ≤ 8 := by unfold hwide; repeat (first | omega | split)
theorem hl_len (m n : Nat) : (hl m n).length = hsize n := by simp [hl, hsize, be_len]; omega
theorem hrd_info {x : Nat} {r : List Nat} (h : 27 < x % 32) (h' : ¬ (x % 32 = 31 ∧ x / 32 ≠ 0 ∧ x / 32 ≠ 1 ∧ x / 32 ≠ 6)) : hrd (x :: r) = .bad 21 := by
  simp only [hrd]
  rw [if_pos h, if_neg h']
theorem hrd_end {x : Nat} {r : List Nat} (h : x % 32 = 31) (h' : x / 32 ≠ 0 ∧ x / 32 ≠ 1 ∧ x / 32 ≠ 6) : hrd (x :: r) = ⟨x / 32, 31, 0, 1, true, 0⟩ := by
  simp only [hrd]
  rw [if_pos (by omega), if_pos ⟨h, h'⟩]
theorem hrd_small {x : Nat} {r : List Nat} (h : x % 32 < 24) : hrd (x :: r) = ⟨x / 32, x % 32, x % 32, 1, true, 0⟩ := by
  simp only [hrd]
  rw [if_neg (by omega), if_pos h]
theorem hrd_short {x : Nat} {r : List Nat} (h0 : 24 ≤ x % 32) (h1 : x % 32 ≤ 27) (h : r.length < hwide (x % 32)) : hrd (x :: r) = .bad 20 := by
  simp only [hrd]
  rw [if_neg (by omega), if_neg (by omega), if_pos h]
theorem hrd_low {x : Nat} {r : List Nat} (h1 : x % 32 = 24) (h : ¬ r.length < hwide (x % 32)) (hm : x / 32 = 7) (hn : bnum 0 (r.take (hwide (x % 32))) < 32) : hrd (x :: r) = .bad 21 := by
  simp only [hrd]
  rw [if_neg (by omega), if_neg (by omega), if_neg h, if_pos ⟨hm, h1, hn⟩]
theorem hrd_long {x : Nat} {r : List Nat} (h0 : 24 ≤ x % 32) (h1 : x % 32 ≤ 27) (h : ¬ r.length < hwide (x % 32)) (hn : ¬ (x / 32 = 7 ∧ x % 32 = 24 ∧ bnum 0 (r.take (hwide (x % 32))) < 32)) :
    hrd (x :: r) = ⟨x / 32, x % 32, bnum 0 (r.take (hwide (x % 32))), 1 + hwide (x % 32), decide (x / 32 = 7) || decide (1 + hwide (x % 32) = hsize (bnum 0 (r.take (hwide (x % 32))))), 0⟩ := by
  simp only [hrd]
  rw [if_neg (by omega), if_neg (by omega), if_neg h, if_neg hn]
theorem bnum_snoc : ∀ (a : Nat) (l : List Nat) (x : Nat), bnum a (l ++ [x]) = 256 * bnum a l + x
  | _, [], _ => rfl
  | a, y :: l, x => by simp only [List.cons_append, bnum]; exact bnum_snoc _ l x
theorem bnum_lt : ∀ (l : List Nat) (a : Nat), (∀ x ∈ l, x < 256) → bnum a l < (a + 1) * 256 ^ l.length
  | [], a, _ => by simp [bnum]
  | y :: l, a, h => by
    simp only [bnum, List.length_cons]
    have h1 := bnum_lt l (256 * a + y) (fun x hx => h x (List.mem_cons_of_mem _ hx))
    have h2 := h y (by simp)
    have h3 : (256 * a + y + 1) * 256 ^ l.length ≤ (256 * (a + 1)) * 256 ^ l.length := Nat.mul_le_mul_right _ (by omega)
    have h4 : (a + 1) * 256 ^ (l.length + 1) = (256 * (a + 1)) * 256 ^ l.length := by rw [Nat.pow_succ]; simp only [Nat.mul_assoc, Nat.mul_comm]
    omega
theorem take_snoc (l : List Nat) (j : Nat) (h : j < l.length) : l.take (j + 1) = l.take j ++ [l.getD j 0] := by
  rw [List.take_succ_eq_append_getElem h]
  simp [List.getD, h]
end
section
open Go.RowKit Go
/-- Keys' order. -/
def bfr (a b : List Nat) : Bool := if a.length = b.length then blt a b else decide (a.length < b.length)
theorem nat_ne {a b : Nat} : ((a : Int) != (b : Int)) = decide (a ≠ b) := by
  rw [Bool.eq_iff_iff]
  simp
  omega
set_option maxRecDepth 1000000 in
theorem rbefore_any (w : World) (s t : ByteArray) (hs : s.size ≤ 9223372036854775807) : Calls Tryz.prog 91 #[.string s, .string t] w fun e w' => e = .returned (.bool (bfr (sl s) (sl t))) ∧ Below w.heap.size w w' := by
  have HSL := hide (sl_len s)
  have HTL := hide (sl_len t)
  have HE : Hid (bfr (sl s) (sl t) = if s.size = t.size then blt (sl s) (sl t) else decide (s.size < t.size)) := by show _ = _; unfold bfr; rw [sl_len, sl_len]
  go_enter Tryz.func91, Tryz.ntmps91
  by_cases h : s.size = t.size
  · rw [if_pos h] at HE
    have g0 : ((s.size : Int) != (t.size : Int)) = false := by rw [nat_ne]; simp [h]
    have HH := hide h
    clear h
    go_wp2_with fail
    go_loopw [5] (fun ii wx => ∃ i : Nat, i ≤ s.size ∧ ii = .int .i64 (i : Nat) ∧ Hid (blt (sl s) (sl t) = blt ((sl s).drop i) ((sl t).drop i)) ∧ Hid (Below w.heap.size w wx)) (fun ii _ => s.size - (intOf ii).toNat)
    case atStart => exact ⟨0, by omega, rfl, by show _ = _; simp, Below.refl _ _⟩
    case round =>
      obtain ⟨i, hi, rfl, HI, HBw⟩ := hrel
      by_cases hlt : i < s.size
      · have g1 : (i : Int) < (s.size : Int) := by omega
        have hlt2 : i < t.size := by rw [← HH.out]; exact hlt
        have g2 : (i : Int) < (t.size : Int) := by omega
        have HD := hide (blt_drop (x := sl s) (y := sl t) (i := i) (by rw [HSL.out]; exact hlt) (by rw [HTL.out]; exact hlt2))
        rw [sl_at s i hlt, sl_at t i hlt2] at HD
        by_cases he : s[i].toNat = t[i].toNat
        · as_aux_lemma =>
          have g3 : ((s[i].toNat : Int) != (t[i].toNat : Int)) = false := by rw [nat_ne]; simp [he]
          rw [if_pos he] at HD
          have HI2 : Hid (blt (sl s) (sl t) = blt ((sl s).drop (i + 1)) ((sl t).drop (i + 1))) := HI.out.trans HD.out
          clear he HI HD
          go_wp2_with fail
          go_region
          go_wp2_with fail
          have HB2 : Hid (Below w.heap.size w wr.drew) := HBw.out.drew
          go_roundw
          case rel => exact ⟨i + 1, by omega, by go_num, HI2, HB2⟩
          case measure => simp [intOf]; omega
        · as_aux_lemma =>
          have g3 : ((s[i].toNat : Int) != (t[i].toNat : Int)) = true := by rw [nat_ne]; simp [he]
          rw [if_neg he] at HD
          have HI2 : Hid (bfr (sl s) (sl t) = decide (s[i].toNat < t[i].toNat)) := by
            show _ = _
            rw [HE.out, HI.out, HD.out]
          clear he HI HD
          go_wp2_with fail
          go_region
          go_wp2_with fail
          go_region
          go_wp2_with fail
          have HB2 : Hid (Below w.heap.size w wr.drew.drew) := HBw.out.drew.drew
          go_ret
          exact ⟨by rw [HI2.out]; rfl, HB2.out⟩
      · as_aux_lemma =>
        have g1 : ¬ (i : Int) < (s.size : Int) := by omega
        have HI2 : Hid (bfr (sl s) (sl t) = false) := by
          show _ = _
          rw [HE.out, HI.out]
          exact blt_end (.inl (by rw [HSL.out]; omega))
        go_wp2_with fail
        go_ret
        exact ⟨by rw [HI2.out]; rfl, HBw.out⟩
  · as_aux_lemma =>
    rw [if_neg h] at HE
    have g0 : ((s.size : Int) != (t.size : Int)) = true := by rw [nat_ne]; simp [h]
    clear h
    go_wp2_with fail
    go_ret
    exact ⟨by rw [HE.out]; rfl, Below.refl _ _⟩
end
section
open Go.RowKit Go
/-- The library's tables of UTF-8 lie as its text lays them. -/
def Tabs (w : World) : Prop := Lib.Utf8Tabs (Tryz.laysValid_ren.g 3) (Tryz.laysValid_ren.g 4) w
theorem Tabs.next {w w' : World} (h : Tabs w) (hb : Below w.heap.size w w') : Tabs w' := Utf8Tabs_below h hb
/-- No good UTF-8. -/
def badb (s : ByteArray) : Bool := !Lib.validD s.data.toList
theorem valid_any (s : ByteArray) (w : World) (hs : s.size ≤ 140737488351232) (hT : Tabs w) : Calls Tryz.prog 108 #[.string s] w fun e w' => e = .returned (.bool (!badb s)) ∧ Below w.heap.size w w' := by
  unfold badb
  rw [Bool.not_not]
  exact Any.utf8_ValidString Tryz.laysValid s w (by omega) hT
end
section
open Go.RowKit Go
/-- Finite, by its bits. -/
def finb (b : Nat) : Bool := decide (b % 9223372036854775808 < 9218868437227405312)
end
section
open Go.RowKit Go
/-! ### Strict reading, plainly -/
/-- The bytes of a string behind its head. -/
def rbody (b : List Nat) : List Nat := if (hrd b).m = 2 ∨ (hrd b).m = 3 then (b.drop (hrd b).u).take (hrd b).n else []
/-- Is it one of MajorOther that trees have? -/
def rknown (h : HR) : Bool := decide (h.i = 20 ∨ h.i = 21 ∨ h.i = 22) || (decide (h.i = 27) && finb h.n)
def rmay (h : HR) (y : List Nat) : Bool := if h.m = 3 then !badb (nstr y) else if h.m = 6 then decide (h.n = 42) else if h.m = 7 then rknown h else true
/-- May it be what it is wanted as: plain 0, a key 1, a name 2? -/
def rfit (want : Nat) (h : HR) (y : List Nat) : Bool := if want = 1 then decide (h.m = 3) else if want = 2 then decide (h.m = 2 ∧ y.head? = some 0 ∧ (lparse y.tail).2 = 0) else true
/-- The item's fault by itself. -/
def rlook (want : Nat) (b : List Nat) : Nat :=
  if (hrd b).e = 20 then 82
  else if (hrd b).e ≠ 0 ∨ (hrd b).i = 31 then 83
  else if ((hrd b).m = 2 ∨ (hrd b).m = 3) ∧ b.length - (hrd b).u < (hrd b).n then 82
  else if rmay (hrd b) (rbody b) = false ∨ rfit want (hrd b) (rbody b) = false then 83
  else 0
def rnest (b : List Nat) : Bool := match b with | [] => false | x :: _ => decide (x / 32 = 4 ∨ x / 32 = 5)
/-- Does a key stand behind the one ahead of it? -/
def rrise (ks : List ByteArray) (s : ByteArray) : Bool := match ks.getLast? with | none => true | some k => bfr (sl k) (sl s)
/-- The fault at a place. -/
def rtake (want : Nat) (full : Bool) (ks : List ByteArray) (b : List Nat) : Nat :=
  if rnest b = true ∧ full = true then 81
  else if rlook want b ≠ 0 then rlook want b
  else if (hrd b).s = false ∨ (want = 1 ∧ rrise ks (nstr (rbody b)) = false) then 84
  else 0
def rused (b : List Nat) : Nat := (hrd b).u + (rbody b).length

theorem hrd_app {b tl : List Nat} (h : (hrd b).e ≠ 20) : hrd (b ++ tl) = hrd b ∧ (hrd b).u ≤ b.length := by
  cases b with
  | nil => exact absurd rfl h
  | cons x r =>
    by_cases h1 : 27 < x % 32
    · by_cases h2 : x % 32 = 31 ∧ x / 32 ≠ 0 ∧ x / 32 ≠ 1 ∧ x / 32 ≠ 6
      · rw [List.cons_append, hrd_end h2.1 h2.2, hrd_end h2.1 h2.2]
        exact ⟨rfl, by simp⟩
      · rw [List.cons_append, hrd_info h1 h2, hrd_info h1 h2]
        exact ⟨rfl, by simp [HR.bad]⟩
    · by_cases h2 : x % 32 < 24
      · rw [List.cons_append, hrd_small h2, hrd_small h2]
        exact ⟨rfl, by simp⟩
      · by_cases h3 : r.length < hwide (x % 32)
        · exact absurd (by rw [hrd_short (by omega) (by omega) h3]; rfl) h
        · have h3' : ¬ (r ++ tl).length < hwide (x % 32) := by rw [List.length_append]; omega
          have ht : (r ++ tl).take (hwide (x % 32)) = r.take (hwide (x % 32)) := List.take_append_of_le_length (by omega)
          by_cases h4 : x / 32 = 7 ∧ x % 32 = 24 ∧ bnum 0 (r.take (hwide (x % 32))) < 32
          · have e : ∀ q : List Nat, ¬ q.length < hwide (x % 32) → bnum 0 (q.take (hwide (x % 32))) < 32 → hrd (x :: q) = .bad 21 := fun q a1 a2 => hrd_low h4.2.1 a1 h4.1 a2
            rw [List.cons_append, e _ h3' (by rw [ht]; exact h4.2.2), e _ h3 h4.2.2]
            exact ⟨rfl, by simp [HR.bad]⟩
          · rw [List.cons_append, hrd_long (by omega) (by omega) h3' (by rw [ht]; exact h4), hrd_long (by omega) (by omega) h3 h4, ht]
            refine ⟨rfl, ?_⟩
            simp only [List.length_cons]
            omega
theorem rlook_app {want : Nat} {b tl : List Nat} (h : rlook want b ≠ 82) : rlook want (b ++ tl) = rlook want b ∧ (rlook want b = 0 → rbody (b ++ tl) = rbody b ∧ hrd (b ++ tl) = hrd b ∧ rused b ≤ b.length) := by
  by_cases h1 : (hrd b).e = 20
  · exact absurd (by unfold rlook; rw [if_pos h1]) h
  obtain ⟨e, hu⟩ := hrd_app (tl := tl) h1
  by_cases h2 : (hrd b).e ≠ 0 ∨ (hrd b).i = 31
  · have e1 : ∀ q : List Nat, hrd q = hrd b → rlook want q = 83 := fun q hq => by unfold rlook; rw [hq, if_neg h1, if_pos h2]
    rw [e1 _ e, e1 b rfl]
    exact ⟨rfl, fun h => by cases h⟩
  by_cases h3 : ((hrd b).m = 2 ∨ (hrd b).m = 3) ∧ b.length - (hrd b).u < (hrd b).n
  · exact absurd (by unfold rlook; rw [if_neg h1, if_neg h2, if_pos h3]) h
  have h3' : ¬ (((hrd b).m = 2 ∨ (hrd b).m = 3) ∧ (b ++ tl).length - (hrd b).u < (hrd b).n) := fun ⟨a1, a2⟩ => h3 ⟨a1, by rw [List.length_append] at a2; omega⟩
  have hb : rbody (b ++ tl) = rbody b := by
    unfold rbody
    rw [e]
    by_cases hm : (hrd b).m = 2 ∨ (hrd b).m = 3
    · rw [if_pos hm, if_pos hm, List.drop_append_of_le_length hu]
      refine List.take_append_of_le_length ?_
      rw [List.length_drop]
      have : ¬ b.length - (hrd b).u < (hrd b).n := fun h => h3 ⟨hm, h⟩
      omega
    · rw [if_neg hm, if_neg hm]
  have key : ∀ q : List Nat, hrd q = hrd b → rbody q = rbody b → ¬ (((hrd b).m = 2 ∨ (hrd b).m = 3) ∧ q.length - (hrd b).u < (hrd b).n) → rlook want q = if rmay (hrd b) (rbody b) = false ∨ rfit want (hrd b) (rbody b) = false then 83 else 0 := fun q a1 a2 a3 => by
    unfold rlook
    rw [a1, if_neg h1, if_neg h2, if_neg a3, a2]
  refine ⟨by rw [key _ e hb h3', key b rfl rfl h3], fun _ => ⟨hb, e, ?_⟩⟩
  unfold rused rbody
  by_cases hm : (hrd b).m = 2 ∨ (hrd b).m = 3
  · rw [if_pos hm, List.length_take, List.length_drop]
    omega
  · rw [if_neg hm]
    simpa using hu
theorem rlook_le {want : Nat} {b : List Nat} (h : rlook want b = 0) : rused b ≤ b.length := ((rlook_app (tl := []) (b := b) (want := want) (by rw [h]; decide)).2 h).2.2
theorem hrd_pos {b : List Nat} (h : (hrd b).e = 0) : 0 < (hrd b).u := by
  cases b with
  | nil => cases h
  | cons x r =>
    by_cases h1 : 27 < x % 32
    · by_cases h2 : x % 32 = 31 ∧ x / 32 ≠ 0 ∧ x / 32 ≠ 1 ∧ x / 32 ≠ 6
      · rw [hrd_end h2.1 h2.2]; exact Nat.one_pos
      · rw [hrd_info h1 h2] at h; cases h
    · by_cases h2 : x % 32 < 24
      · rw [hrd_small h2]; exact Nat.one_pos
      · by_cases h3 : r.length < hwide (x % 32)
        · rw [hrd_short (by omega) (by omega) h3] at h; cases h
        · by_cases h4 : x / 32 = 7 ∧ x % 32 = 24 ∧ bnum 0 (r.take (hwide (x % 32))) < 32
          · rw [hrd_low h4.2.1 h3 h4.1 h4.2.2] at h; cases h
          · rw [hrd_long (by omega) (by omega) h3 h4]
            show 0 < 1 + _
            omega
theorem rlook_pos {want : Nat} {b : List Nat} (h : rlook want b = 0) : 0 < rused b := by
  unfold rlook at h
  by_cases h1 : (hrd b).e = 20
  · rw [if_pos h1] at h; cases h
  rw [if_neg h1] at h
  by_cases h2 : (hrd b).e ≠ 0 ∨ (hrd b).i = 31
  · rw [if_pos h2] at h; cases h
  have := hrd_pos (b := b) (by
    rcases Nat.decEq (hrd b).e 0 with h3 | h3
    · exact absurd (.inl h3) h2
    · exact h3)
  unfold rused
  omega
end
section
open Go.RowKit Go
theorem wpList_exec {ops : Array Oper} {rest : List Oper} {o : Oper} {a : Act} {Q : Exit → Act → World → Prop} {w : World} {v : Value} (hgd : o.guard = none) (hr : (execOp a.eval o).run Tryz.prog w = .ok (.value v) w) (h : wpList Tryz.prog ops Q rest (a.put o.dst v) w) : wpList Tryz.prog ops Q (o :: rest) a w := by
  refine wpList_plain hgd fun K hK => ?_
  unfold Oper.wp
  rw [hr]
  exact hK _ _ h
/-- b[k:]. -/
def dropS (ad : Option Addr) (n cap k : Nat) : Value := match ad with
  | none => .slice none 0 0
  | some p => if cap = k then .slice (some p) 0 0 else .slice (some (p.add k)) (n - k) (cap - k)
theorem bsl_drop8 {w : World} {ad : Option Addr} {n cap k : Nat} {xs : List Nat} (h : BSl w (.slice ad n cap) xs) (hk : k ≤ xs.length) : BSl w (dropS ad n cap k) (xs.drop k) := by
  obtain ⟨⟨ad', cap', hv, hn, hc⟩, hmax, hby⟩ := h
  injection hv with e1 e2 e3
  subst e1 e2 e3
  have hlen : (xs.drop k).length = xs.length - k := List.length_drop
  cases ad with
  | none =>
    have hc0 := hn.2 rfl
    have e : xs.drop k = [] := List.drop_of_length_le (by omega)
    rw [e]
    exact ⟨⟨none, 0, rfl, ⟨Nat.le_refl _, fun _ => rfl⟩, .inl rfl⟩, by simp, by simp⟩
  | some p =>
    unfold dropS
    simp only
    by_cases hkk : cap = k
    · rw [if_pos hkk]
      have e : xs.drop k = [] := List.drop_of_length_le (by omega)
      rw [e]
      exact ⟨⟨some p, 0, rfl, ⟨Nat.le_refl _, fun e => by cases e⟩, .inl rfl⟩, by simp, by simp⟩
    · rw [if_neg hkk]
      refine ⟨⟨some (p.add k), cap - k, by rw [hlen], ⟨by rw [hlen]; omega, fun e => by cases e⟩, ?_⟩, by rw [hlen]; omega, fun z hz => hby z (List.mem_of_mem_drop hz)⟩
      rcases hc with hx0 | ⟨b, off, e, hcell⟩
      · left
        rw [hx0]
        simp
      · right
        injection e with e
        subst e
        have hadd : (⟨b, off, none⟩ : Addr).add k = ⟨b, off + k, none⟩ := by unfold Addr.add; split <;> simp_all
        rw [hadd]
        refine ⟨b, off + k, rfl, fun j hj => ?_⟩
        rw [hlen] at hj
        have h2 := hcell (k + j) (by omega)
        rw [← Nat.add_assoc] at h2
        rw [h2]
        simp [List.getD, List.getElem?_drop]
set_option maxRecDepth 1000000 in
theorem exec_drop {o : Oper} {a : Act} {x y : Operand} {w : World} {ad : Option Addr} {n cap k : Nat} (ho : o.op = .slice 46 x (some y) none none) (hx : a.eval x = .slice ad n cap) (hy : a.eval y = .int .i64 (k : Nat)) (hk : k ≤ n) (hn : n ≤ cap) (hz : ad = none → cap = 0) : (execOp a.eval o).run Tryz.prog w = .ok (.value (dropS ad n cap k)) w := by
  unfold execOp
  simp only [ho, Option.map_some, Option.map_none, hx, hy]
  clear ho
  have hki : (k : Int) ≤ (n : Int) := by omega
  have hkc : (k : Int) ≤ (cap : Int) := by omega
  cases ad with
  | none =>
    have hc0 := hz rfl
    have hn0 : n = 0 := by omega
    have hk0 : k = 0 := by omega
    subst hk0 hn0 hc0
    unfold dropS
    go_simp
  | some p =>
    unfold dropS
    by_cases hkk : cap = k
    · have hnk : n = k := by omega
      subst hkk hnk
      simp only [if_true]
      go_simp
    · have hkl : (k : Int) < (cap : Int) := by omega
      simp only [if_neg hkk]
      go_simp
set_option maxRecDepth 1000000 in
theorem exec_take {o : Oper} {a : Act} {x y : Operand} {w : World} {ad : Option Addr} {n cap k : Nat} (ho : o.op = .slice 46 x none (some y) none) (hx : a.eval x = .slice ad n cap) (hy : a.eval y = .int .u64 (k : Nat)) (hk : k ≤ n) (hn : n ≤ cap) : (execOp a.eval o).run Tryz.prog w = .ok (.value (.slice ad k cap)) w := by
  unfold execOp
  simp only [ho, Option.map_some, Option.map_none, hx, hy]
  clear ho
  have hki : (k : Int) ≤ (n : Int) := by omega
  have hkc : (k : Int) ≤ (cap : Int) := by omega
  go_simp
theorem bsl_take8 {w : World} {ad : Option Addr} {n cap k : Nat} {xs : List Nat} (h : BSl w (.slice ad n cap) xs) (hk : k ≤ xs.length) : BSl w (.slice ad k cap) (xs.take k) := by
  obtain ⟨⟨ad', cap', hv, hn, hc⟩, hmax, hby⟩ := h
  injection hv with e1 e2 e3
  subst e1 e2 e3
  have hlen : (xs.take k).length = k := by rw [List.length_take]; omega
  refine ⟨⟨ad, cap, by rw [hlen], ⟨by rw [hlen]; omega, hn.2⟩, ?_⟩, by rw [hlen]; omega, fun z hz => hby z (List.mem_of_mem_take hz)⟩
  rcases hc with hx0 | ⟨b, off, e, hcell⟩
  · left
    rw [hx0]
    simp
  · right
    refine ⟨b, off, e, fun j hj => ?_⟩
    rw [hlen] at hj
    rw [hcell j (by omega)]
    simp [List.getD, hj]
end
section
open Go.RowKit Go
/-- The format of 64 bits. -/
def fmtc : Array Value := #[.int .i64 11, .int .i64 52]
set_option maxRecDepth 1000000 in
theorem infoF : (Tryz.prog.info? 201).map (·.size) = some fmtc.size := by kernel_rfl
theorem qstep_fmt {C : World → Prop} {ops : Array Oper} {o : Oper} {a : Act} {K : Act → Prop} {p : Operand} (hgd : Region.wanted o (yielded ops a.tmps) = true) (ho : o.op = .load 201 p) (g : Nat)
    (hp : a.eval p = .pointer (some ⟨g, 0, none⟩)) (hc : ∀ w, C w → w.heap[g]? = some (.cells fmtc 201 (0, 0)))
    (h : K (a.put o.dst (.agg fmtc))) : if Region.wanted o (yielded ops a.tmps) = true then o.quiet Tryz.prog a C K else K (a.put o.dst undef) := by
  rw [if_pos hgd]
  refine ⟨.agg fmtc, fun w hC => ?_, h⟩
  unfold Oper.quietAt execOp
  have hr : (Instr.loadAt 201 (.pointer (some ⟨g, 0, none⟩))).run Tryz.prog w = .ok (.agg fmtc) w := by
    simp only [Instr.loadAt, Instr.sureAddr, Sem.run_bind, Sem.run_pure, Result.andThen]
    exact run_loadVar_row (P := Tryz.prog) w g 201 201 fmtc (0, 0) _ (hc w hC) Tryz.underlying201 rfl infoF
  simp only [ho, Sem.run_bind, hp, hr, Result.andThen_ok]
  exact ⟨rfl, rfl⟩
set_option maxRecDepth 1000000 in
theorem f64_any (w : World) : Calls Tryz.prog 121 #[] w fun e w' => e = .returned (.agg fmtc) ∧ Below w.heap.size w w' := by
  go_enter Tryz.func121, Tryz.ntmps121
  go_wp2_with fail
  refine bodyPost_ret (v := .agg fmtc) ((results_one (p := 0) (ty := 201) rfl _ _ _).trans ?_) rfl ⟨rfl, ?_⟩
  · have h1 := run_loadVar_row (P := Tryz.prog) (w.alloc (.cells fmtc 201)) w.heap.size 201 201 fmtc (0, 0) _ (heap_alloc_new w _) Tryz.underlying201 rfl infoF
    show ((Sem.run Tryz.prog (asAddr (Value.pointer (some ⟨w.heap.size, 0, none⟩))) (w.alloc (.cells fmtc 201))).andThen fun a w₁ => Sem.run Tryz.prog (loadVar 201 a) w₁) = _
    simp [asAddr, h1, Result.andThen]
    rfl
  · exact below_alloc4 w _
set_option maxRecDepth 1000000 in
theorem fall_any (w : World) : Calls Tryz.prog 129 #[.agg fmtc] w fun e w' => e = .returned (.int .i64 2047) ∧ Below w.heap.size w w' := by
  have q0 : (w.alloc (.cells fmtc 201)).cell? ⟨w.heap.size, 0, none⟩ = some (.int .i64 11) := blk_cell (heap_alloc_new w _) rfl
  have q1 : (w.alloc (.cells fmtc 201)).cell? ⟨w.heap.size, 1, none⟩ = some (.int .i64 52) := blk_cell (heap_alloc_new w _) rfl
  go_enter Tryz.func129, Tryz.ntmps129
  go_wp2_with fail
  go_ret
  exact ⟨rfl, below_alloc4 w _⟩
set_option maxRecDepth 1000000 in
theorem fsign_any (w : World) : Calls Tryz.prog 128 #[.agg fmtc] w fun e w' => e = .returned (.int .u64 9223372036854775808) ∧ Below w.heap.size w w' := by
  have q0 : (w.alloc (.cells fmtc 201)).cell? ⟨w.heap.size, 0, none⟩ = some (.int .i64 11) := blk_cell (heap_alloc_new w _) rfl
  have q1 : (w.alloc (.cells fmtc 201)).cell? ⟨w.heap.size, 1, none⟩ = some (.int .i64 52) := blk_cell (heap_alloc_new w _) rfl
  go_enter Tryz.func128, Tryz.ntmps128
  go_wp2_with fail
  go_ret
  exact ⟨rfl, below_alloc4 w _⟩
set_option maxRecDepth 1000000 in
theorem fbias_any (w : World) : Calls Tryz.prog 130 #[.agg fmtc] w fun e w' => e = .returned (.int .i64 1023) ∧ Below w.heap.size w w' := by
  have HBK := hide (heap_alloc_new w (.cells fmtc 201))
  have HB0 := hide (below_alloc4 w (.cells fmtc 201))
  go_enter Tryz.func130, Tryz.ntmps130
  go_wp2_with (refine wpList_loadAll rfl rfl w.heap.size fmtc 201 rfl HBK.out Tryz.underlying201 infoF ?_)
  refine (fall_any _).mono ?_
  rintro e w1 ⟨rfl, hb1⟩
  have HB1 := hide (HB0.out.trans (hb1.mono HB0.out.size))
  clear hb1
  go_wp2_with fail
  go_ret
  exact ⟨rfl, HB1.out⟩
theorem and_2047 (n : Nat) (hn : n < 18446744073709551616) : bits .and .u64 (n : Int) 2047 = ((n % 2048 : Nat) : Int) := by
  have e1 : (BitVec.ofInt 64 (n : Int)).toNat = n := by
    simp
    omega
  have e2 : (BitVec.ofInt 64 2047).toNat = 2047 := by decide
  show IntKind.u64.wrap ((BitVec.ofInt 64 (n : Int) &&& BitVec.ofInt 64 2047).toNat : Nat) = _
  rw [BitVec.toNat_and, e1, e2, IntKind.wrap_u64]
  have e3 := Nat.and_two_pow_sub_one_eq_mod n 11
  rw [show (2 ^ 11 - 1 : Nat) = 2047 from rfl, show (2 ^ 11 : Nat) = 2048 from rfl] at e3
  rw [e3]
  omega
theorem exp_is (b : Nat) (hb : b < 18446744073709551616) : wrap64 (bits .and .u64 ((b : Int) / 2 ^ min 52 64) 2047) = ((b / 4503599627370496 % 2048 : Nat) : Int) := by
  have e : ((b : Int) / 2 ^ min 52 64) = ((b / 4503599627370496 : Nat) : Int) := by
    rw [show min 52 64 = 52 from rfl, show (2 : Int) ^ 52 = 4503599627370496 by decide]
    omega
  rw [e, and_2047 _ (by omega)]
  unfold wrap64
  omega
theorem finb_exp (b : Nat) : finb b = !(((b / 4503599627370496 % 2048 : Nat) : Int) == 2047) := by
  unfold finb
  rw [Bool.eq_iff_iff]
  simp
  omega
set_option maxRecDepth 1000000 in
set_option maxHeartbeats 1000000 in
theorem fparts_any (b : Nat) (hb : b < 18446744073709551616) (w : World) : Calls Tryz.prog 122 #[.agg fmtc, .int .u64 (b : Nat)] w fun e w' => (∃ (c : Int) (n m x : Value), e = .returned (.tuple #[.int .i64 c, n, m, x]) ∧ (c == 0) = finb b) ∧ Below w.heap.size w w' := by
  have HBK := hide (heap_alloc_new w (.cells fmtc 201))
  have HB0 := hide (below_alloc4 w (.cells fmtc 201))
  go_enter Tryz.func122, Tryz.ntmps122
  go_wp2_with (refine wpList_loadAll rfl rfl w.heap.size fmtc 201 rfl HBK.out Tryz.underlying201 infoF ?_)
  refine (fsign_any _).mono ?_
  rintro e w1 ⟨rfl, hb1⟩
  have HB1 := hide (HB0.out.trans (hb1.mono HB0.out.size))
  have HC1 : Hid (w1.heap[w.heap.size]? = some (.cells fmtc 201 (0, 0))) := (hb1.block _ (blk_lt HBK.out)).trans HBK.out
  have q1 : w1.cell? ⟨w.heap.size, 1, none⟩ = some (.int .i64 52) := blk_cell HC1.out rfl
  clear hb1 HBK HB0
  go_wp2_with fail
  have HQ1 : Hid (∀ wx : World, (∃ t : Ext w1, wx = t.w') → wx.heap[w.heap.size]? = some (.cells fmtc 201 (0, 0))) := fun wx ⟨t, e⟩ => by rw [e]; exact (t.h.block _ (blk_lt HC1.out)).trans HC1.out
  have c1 : ∀ t : Ext w1, t.w'.cell? ⟨w.heap.size, 1, none⟩ = some (.int .i64 52) := fun t => blk_cell (HQ1.out _ ⟨t, rfl⟩) rfl
  refine region_ext (by kernel_rfl) (by kernel_rfl) ?_
  repeat (
    refine wpQuiet_step (fun K hK => ?_)
    first
      | (refine qstep_fmt rfl rfl w.heap.size rfl HQ1.out (hK _ ?_); clear hK K)
      | (go_simp
         first
           | (refine hK _ ?_; clear hK K)
           | (apply Exists.intro
              refine ⟨fun _ => ?_, hK _ ?_⟩
              (go_at_call 129; exact Calls.ext_below (fall_any _))
              clear hK K)))
  refine wpQuiet_nil ?_
  rintro _ ⟨tq, rfl⟩
  have HB2 : Hid (Below w.heap.size w tq.w') := HB1.out.trans (tq.h.mono HB1.out.size)
  have HC2 : Hid (tq.w'.heap[w.heap.size]? = some (.cells fmtc 201 (0, 0))) := HQ1.out _ ⟨tq, rfl⟩
  clear HQ1 c1 HB1 HC1 q1
  generalize tq.w' = w2 at *
  clear tq w1
  go_wp2_with (refine wpList_loadAll rfl rfl w.heap.size fmtc 201 rfl HC2.out Tryz.underlying201 infoF ?_)
  refine (fall_any _).mono ?_
  rintro e w3 ⟨rfl, hb3⟩
  have HB3 : Hid (Below w.heap.size w w3) := HB2.out.trans (hb3.mono HB2.out.size)
  have HC3 : Hid (w3.heap[w.heap.size]? = some (.cells fmtc 201 (0, 0))) := (hb3.block _ (blk_lt HC2.out)).trans HC2.out
  have HFX := hide (finb_exp b)
  have hex := exp_is b hb
  rw [← hex] at HFX
  clear hb3 HB2 HC2 hex hb w2
  generalize wrap64 (bits .and .u64 ((b : Int) / 2 ^ min 52 64) 2047) = X at *
  generalize bits .and .u64 (b : Int) 4503599627370495 = F at *
  generalize bits .and .u64 (b : Int) 9223372036854775808 = N at *
  generalize ((b : Int) / 2 ^ min 52 64) = Y at *
  generalize bits .and .u64 Y 2047 = Z at *
  rcases Bool.eq_false_or_eq_true (X == 2047) with g35 | g35
  · have HF : Hid (finb b = false) := by show _ = _; rw [HFX.out, g35]; rfl
    clear HFX
    rcases Bool.eq_false_or_eq_true (F != 0) with g37 | g37
    · as_aux_lemma =>
      go_wp2_with fail
      refine bodyPost_ret (results_four rfl _ _ _) rfl ⟨⟨_, _, _, _, rfl, by rw [HF.out]; rfl⟩, HB3.out⟩
    · as_aux_lemma =>
      go_wp2_with fail
      refine bodyPost_ret (results_four rfl _ _ _) rfl ⟨⟨_, _, _, _, rfl, by rw [HF.out]; rfl⟩, HB3.out⟩
  · have HF : Hid (finb b = true) := by show _ = _; rw [HFX.out, g35]; rfl
    clear HFX
    have HQ3 : Hid (∀ wx : World, (∃ t : Ext w3, wx = t.w') → wx.heap[w.heap.size]? = some (.cells fmtc 201 (0, 0))) := fun wx ⟨t, e⟩ => by rw [e]; exact (t.h.block _ (blk_lt HC3.out)).trans HC3.out
    have c1 : ∀ t : Ext w3, t.w'.cell? ⟨w.heap.size, 1, none⟩ = some (.int .i64 52) := fun t => blk_cell (HQ3.out _ ⟨t, rfl⟩) rfl
    rcases Bool.eq_false_or_eq_true (X == 0) with g41 | g41
    · as_aux_lemma =>
      go_wp2_with fail
      refine region_ext (by kernel_rfl) (by kernel_rfl) ?_
      repeat (
        refine wpQuiet_step (fun K hK => ?_)
        first
          | (refine qstep_fmt rfl rfl w.heap.size rfl HQ3.out (hK _ ?_); clear hK K)
          | (go_simp
             first
               | (refine hK _ ?_; clear hK K)
               | (apply Exists.intro
                  refine ⟨fun _ => ?_, hK _ ?_⟩
                  (go_at_call 130; exact Calls.ext_below (fbias_any _))
                  clear hK K)))
      refine wpQuiet_nil ?_
      rintro _ ⟨tq, rfl⟩
      have HB4 : Hid (Below w.heap.size w tq.w') := HB3.out.trans (tq.h.mono HB3.out.size)
      go_wp2_with fail
      refine bodyPost_ret (results_four rfl _ _ _) rfl ⟨⟨_, _, _, _, rfl, by rw [HF.out]; rfl⟩, HB4.out⟩
    · as_aux_lemma =>
      go_wp2_with fail
      refine region_ext (by kernel_rfl) (by kernel_rfl) ?_
      repeat (
        refine wpQuiet_step (fun K hK => ?_)
        first
          | (refine qstep_fmt rfl rfl w.heap.size rfl HQ3.out (hK _ ?_); clear hK K)
          | (go_simp
             first
               | (refine hK _ ?_; clear hK K)
               | (apply Exists.intro
                  refine ⟨fun _ => ?_, hK _ ?_⟩
                  (go_at_call 130; exact Calls.ext_below (fbias_any _))
                  clear hK K)))
      refine wpQuiet_nil ?_
      rintro _ ⟨tq, rfl⟩
      have HB4 : Hid (Below w.heap.size w tq.w') := HB3.out.trans (tq.h.mono HB3.out.size)
      go_wp2_with fail
      refine bodyPost_ret (results_four rfl _ _ _) rfl ⟨⟨_, _, _, _, rfl, by rw [HF.out]; rfl⟩, HB4.out⟩
set_option maxRecDepth 1000000 in
theorem isFinite_any (b : Nat) (hb : b < 18446744073709551616) (w : World) : Calls Tryz.prog 113 #[.int .u64 (b : Nat)] w fun e w' => e = .returned (.bool (finb b)) ∧ Below w.heap.size w w' := by
  have HBB := hide hb
  clear hb
  go_enter Tryz.func113, Tryz.ntmps113
  go_wp2_with fail
  refine (f64_any _).mono ?_
  rintro e w1 ⟨rfl, hb1⟩
  have HB1 := hide hb1
  clear hb1
  go_wp2_with fail
  refine (fparts_any b HBB.out _).mono ?_
  rintro e w2 ⟨⟨c, n, m, x, rfl, hc⟩, hb2⟩
  have HC := hide hc
  have HB2 := hide (HB1.out.trans (hb2.mono HB1.out.size))
  clear hc hb2
  go_wp2_with fail
  go_ret
  exact ⟨by rw [← HC.out]; rfl, HB2.out⟩
end
end Go.Proofs.YtdejcapbggjjgaaGreatDoor
