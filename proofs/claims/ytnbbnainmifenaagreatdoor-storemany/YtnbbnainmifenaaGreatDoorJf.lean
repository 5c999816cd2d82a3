import Derived.Test.YtnbbnainmifenaaGreatDoorJe
import Derived.Test.YtnbbnainmifenaaGreatDoorJd
import Derived.Lib.AppendZerosOnto
import Derived.Lib.SliceRun
import Derived.Test.YtnbbnainmifenaaGreatDoorJc
import Derived.Lib.BytesEntry
import Derived.Laws.Externs
import Derived.Test.YtnbbnainmifenaaGreatDoorJa
import Derived.ProofKit
import Derived.OpenShut
import Derived.SizedLaws
import Derived.Deep.Matrix
import Derived.Lib.SmallJoins
import Derived.Test.YtnbbnainmifenaaGreatDoorJb
import Derived.SliceStrings
import Derived.Laws.MakeOwn
import Derived.Laws.Concat
namespace Go.Proofs.YtnbbnainmifenaaGreatDoor
section
open Go.RowKit Go
def ln4 (i : Nat) : Lk := ⟨1, 85, 18, sha (blk4 i)⟩
theorem lof4 (i : Nat) : lof 85 (blk4 i) = (ln4 i, 0) := by
  unfold lof
  rw [if_pos (by decide)]
  rfl
theorem ln4_lkx (i : Nat) : Lkx (ln4 i) :=
  ⟨⟨(by decide : (85 : Nat) < 18446744073709551616), (by decide : (18 : Nat) < 18446744073709551616), sha_byte (blk4 i), by
    show (sha (blk4 i)).length ≤ _
    rw [sha_len]
    decide⟩, show (-9223372036854775808 : Int) ≤ ((1 : Nat) : Int) ∧ ((1 : Nat) : Int) ≤ 9223372036854775807 by decide⟩
theorem block13_at (w : World) (i : Nat) (hi : i < 16777216) : Calls Tryz.prog 16 #[.int .i64 (i : Nat)] w fun e w' => e = .returned (.slice (some ⟨w.heap.size, 0, none⟩) 4 4) ∧ w' = w.alloc (.cells (bv (blk4 i)).toArray 5) := by
  have HE : Hid ((bv (blk4 i)).toArray = #[.int .u8 ((i : Int) % 256), .int .u8 ((i : Int) / 256 % 256), .int .u8 ((i : Int) / 65536), .int .u8 107]) := by
    have e1 : (i : Int) % 256 = ((i % 256 : Nat) : Int) := by omega
    have e2 : (i : Int) / 256 % 256 = ((i / 256 % 256 : Nat) : Int) := by omega
    have e3 : (i : Int) / 65536 = ((i / 65536 % 256 : Nat) : Int) := by omega
    show _ = _
    rw [e1, e2, e3]
    rfl
  go_enter Tryz.func16, Tryz.ntmps16
  go_wp2_with fail
  go_ret
  exact ⟨rfl, by rw [HE.out]⟩
structure Lsw (w wx : World) (a k : Nat) (v : Value) (Cs : List (Array Value)) : Prop where
  o : wx.ownsRow w.heap.size 43 5 v Cs.length (gfl Cs)
  n : Cs.length = k
  c : ∀ m c, Cs[m]? = some c → ∃ q, w.heap.size ≤ q ∧ c = bcs (ln4 (a + m), blk4 (a + m)) (.slice (some ⟨q, 0, none⟩) 4 4) ∧ wx.heap[q]? = some (.cells (bv (blk4 (a + m))).toArray 5 (0, 0))
  b : Below w.heap.size w wx
theorem Lsw.next {w wx wy : World} {a k : Nat} {v : Value} {Cs : List (Array Value)} (h : Lsw w wx a k v Cs) (hb : Below wx.heap.size wx wy) : Lsw w wy a k v Cs :=
  ⟨(Kp.of_below (S := fun _ => False) hb).owns h.o (fun _ _ h => h), h.n, fun m c hm => by
    obtain ⟨q, h1, h2, h3⟩ := h.c m c hm
    exact ⟨q, h1, h2, (hb.block q (blk_lt h3)).trans h3⟩, h.b.trans (hb.mono h.b.size)⟩
theorem Lsw.add {w wx wy : World} {a k q : Nat} {v v' : Value} {Cs : List (Array Value)} (h : Lsw w wx a k v Cs) (hq : w.heap.size ≤ q) (hc : wx.heap[q]? = some (.cells (bv (blk4 (a + k))).toArray 5 (0, 0))) (ho : wy.ownsRow w.heap.size 43 5 v' (Cs.length + 1) (gfl (Cs ++ [bcs (ln4 (a + k), blk4 (a + k)) (.slice (some ⟨q, 0, none⟩) 4 4)]))) (hg : wx.grownBy wy v.ownBlock) : Lsw w wy a (k + 1) v' (Cs ++ [bcs (ln4 (a + k), blk4 (a + k)) (.slice (some ⟨q, 0, none⟩) 4 4)]) := by
  have hkeep : ∀ (p : Nat) (cs : Array Value), wx.heap[p]? = some (.cells cs 5 (0, 0)) → wy.heap[p]? = some (.cells cs 5 (0, 0)) := fun p cs hp => by
    refine (hg.block p (blk_lt hp) ?_).trans hp
    rcases own_ne9 h.o hp (fun cur e => by have h1 := (Obj.cells.inj e).2.1; revert h1; decide) with e | e
    · rw [e]; simp
    · exact fun e' => e e'.symm
  refine ⟨by rw [List.length_append]; exact ho, by rw [List.length_append, h.n]; rfl, fun m c hm => ?_, h.b.grown hg h.b.size (fun k e => (h.o.lt k e).1)⟩
  by_cases hmk : m < Cs.length
  · rw [List.getElem?_append_left hmk] at hm
    obtain ⟨p, h1, h2, h3⟩ := h.c m c hm
    exact ⟨p, h1, h2, hkeep p _ h3⟩
  · rw [List.getElem?_append_right (by omega)] at hm
    have hm0 : m = Cs.length := by
      rcases Nat.eq_zero_or_pos (m - Cs.length) with e | e
      · omega
      · rw [List.getElem?_eq_none (by simp; omega)] at hm
        cases hm
    subst hm0
    rw [h.n]
    simp at hm
    subst hm
    exact ⟨q, hq, rfl, hkeep q _ hc⟩
end
section
open Go.RowKit Go
theorem infoBk5 : (Tryz.prog.info? 43).map (fun i => (i.zero, i.size, i.bytes)) = some (some (.agg #[.int .i64 0, .int .u64 0, .int .u64 0, .string ⟨#[]⟩, .slice none 0 0]), 5, 64) := by kernel_rfl
set_option maxRecDepth 1000000 in
set_option maxHeartbeats 4000000 in
theorem lists13_any (w : World) (a b : Nat) (ha : a ≤ 100000) (hb : b ≤ 100000) (hcb : Cb w) : Calls Tryz.prog 8 #[.int .i64 (a : Nat), .int .i64 (b : Nat)] w fun e w' => ∃ v Cs, e = .returned v ∧ Hid (Lsw w w' a (b - a) v Cs) := by
  have HC := hide hcb
  have H0 : Hid (Lsw w w a 0 (.slice none 0 0) []) := ⟨⟨rfl, .inl ⟨rfl, rfl⟩⟩, rfl, fun m c hm => by simp at hm, Below.refl _ _⟩
  clear hcb
  go_enter Tryz.func8, Tryz.ntmps8
  go_wp2_with fail
  go_loopw [5, 6] (fun u q wx => ∃ (k : Nat) (Cs : List (Array Value)), k ≤ b - a ∧ q = .int .i64 ((a + k : Nat) : Int) ∧ Hid (Lsw w wx a k u Cs)) (fun _ q _ => b - (intOf q).toNat)
  case atStart => exact ⟨0, [], by omega, rfl, H0⟩
  case round =>
    obtain ⟨k, Cs, hk, rfl, HL⟩ := hrel
    clear H0
    by_cases hlt : a + k < b
    · have g1 : ((a + k : Nat) : Int) < (b : Int) := by omega
      have HW := hide (block13_at wr (a + k) (by omega))
      go_upto_region 6 with (go_at_call 16; refine HW.out.mono ?_; rintro e w1 ⟨rfl, rfl⟩)
      have HB1 : Hid (Below wr.heap.size wr (wr.alloc (.cells (bv (blk4 (a + k))).toArray 5))) := below_alloc4 wr _
      have HQ1 : Hid ((wr.alloc (.cells (bv (blk4 (a + k))).toArray 5)).heap[wr.heap.size]? = some (.cells (bv (blk4 (a + k))).toArray 5 (0, 0))) := heap_alloc_new wr _
      have hq0 : w.heap.size ≤ wr.heap.size := HL.out.b.size
      have HL1 := hide (HL.out.next HB1.out)
      clear HW
      generalize wr.alloc (.cells (bv (blk4 (a + k))).toArray 5) = w1 at *
      obtain ⟨q, hq⟩ : ∃ q, wr.heap.size = q := ⟨_, rfl⟩
      rw [hq] at HQ1 hq0
      have HS1 : Hid (BSl w1 (.slice (some ⟨q, 0, none⟩) 4 4) (blk4 (a + k))) := bsl_block (xs := blk4 (a + k)) HQ1.out (blk4_byte _) (by show (4 : Nat) ≤ _; decide)
      have HOF := hide (of_any w1 85 (.slice (some ⟨q, 0, none⟩) 4 4) (blk4 (a + k)) (HC.out.below HL1.out.b) HS1.out (by show (4 : Nat) ≤ _; decide))
      rw [lof4] at HOF
      obtain ⟨l, hl⟩ : ∃ l, ln4 (a + k) = l := ⟨_, rfl⟩
      rw [hl] at HOF
      simp only [lkv] at HOF
      try rw [hq]
      clear HS1 HB1
      go_upto_region 7 with (go_at_call 17; refine HOF.out.mono ?_; rintro e w2 ⟨rfl, hb2⟩)
      have HL2 := hide (HL1.out.next hb2)
      have HQ2 : Hid (w2.heap[q]? = some (.cells (bv (blk4 (a + k))).toArray 5 (0, 0))) := (hb2.block _ (blk_lt HQ1.out)).trans HQ1.out
      have HB3 : Hid (Below w2.heap.size w2 (w2.alloc (.cells #[.int .i64 l.v, .int .u64 (l.c : Nat), .int .u64 (l.h : Nat), .string (nstr l.d)] 38))) := below_alloc4 w2 _
      have HT3 : Hid ((w2.alloc (.cells #[.int .i64 l.v, .int .u64 (l.c : Nat), .int .u64 (l.h : Nat), .string (nstr l.d)] 38)).heap[w2.heap.size]? = some (.cells (lcs l) 38 (0, 0))) := heap_alloc_new w2 _
      clear HOF hb2 HL1 HQ1
      generalize w2.alloc (.cells #[.int .i64 l.v, .int .u64 (l.c : Nat), .int .u64 (l.h : Nat), .string (nstr l.d)] 38) = w3 at *
      have HL3 := hide (HL2.out.next HB3.out)
      have HQ3 : Hid (w3.heap[q]? = some (.cells (bv (blk4 (a + k))).toArray 5 (0, 0))) := (HB3.out.block _ (blk_lt HQ2.out)).trans HQ2.out
      have c0 : w3.cell? ⟨w2.heap.size, 0, none⟩ = some (.int .i64 l.v) := blk_cell (j := 0) HT3.out rfl
      have c1 : w3.cell? ⟨w2.heap.size, 1, none⟩ = some (.int .u64 (l.c : Nat)) := blk_cell (j := 1) HT3.out rfl
      have c2 : w3.cell? ⟨w2.heap.size, 2, none⟩ = some (.int .u64 (l.h : Nat)) := blk_cell (j := 2) HT3.out rfl
      have c3 : w3.cell? ⟨w2.heap.size, 3, none⟩ = some (.string (nstr l.d)) := blk_cell (j := 3) HT3.out rfl
      have HB4 : Hid (Below w3.heap.size w3 (w3.alloc (.cells #[.int .i64 l.v, .int .u64 (l.c : Nat), .int .u64 (l.h : Nat), .string (nstr l.d), .slice (some ⟨q, 0, none⟩) 4 4] 43))) := below_alloc4 w3 _
      have HT4 : Hid ((w3.alloc (.cells #[.int .i64 l.v, .int .u64 (l.c : Nat), .int .u64 (l.h : Nat), .string (nstr l.d), .slice (some ⟨q, 0, none⟩) 4 4] 43)).heap[w3.heap.size]? = some (.cells (bcs (l, blk4 (a + k)) (.slice (some ⟨q, 0, none⟩) 4 4)) 43 (0, 0))) := heap_alloc_new w3 _
      have HL4 := hide (HL3.out.next HB4.out)
      have HQ4 : Hid ((w3.alloc (.cells #[.int .i64 l.v, .int .u64 (l.c : Nat), .int .u64 (l.h : Nat), .string (nstr l.d), .slice (some ⟨q, 0, none⟩) 4 4] 43)).heap[q]? = some (.cells (bv (blk4 (a + k))).toArray 5 (0, 0))) := (HB4.out.block _ (blk_lt HQ3.out)).trans HQ3.out
      have HON : Hid (∀ u ∈ (bcs (l, blk4 (a + k)) (.slice (some ⟨q, 0, none⟩) 4 4)).toList, u.oneCell' = true) := fun u hu => by simp [bcs] at hu; rcases hu with rfl | rfl | rfl | rfl | rfl <;> rfl
      have HNK : Hid (Cs.length ≤ 1000000) := by have h1 := HL.out.n; show _ ≤ _; omega
      have HWB : Hid (w.heap.size ≤ (w3.alloc (.cells #[.int .i64 l.v, .int .u64 (l.c : Nat), .int .u64 (l.h : Nat), .string (nstr l.d), .slice (some ⟨q, 0, none⟩) 4 4] 43)).heap.size) := HL4.out.b.size
      clear HB3 HT3 HL2 HL3 HQ2 HQ3 HB4
      go_wp2_with (refine append_g infoBk5 Tryz.underlying31 rfl (by decide) (by decide) rfl rfl rfl HL4.out.o rfl HT4.out rfl HON.out HNK.out HWB.out ?_; intro v5 w5 h6 h7 h8)
      subst hl
      refine ⟨⟨k + 1, _, by omega, by rw [show ((a + (k + 1) : Nat) : Int) = (a : Int) + k + 1 by omega], HL4.out.add hq0 HQ4.out h6 h7⟩, ?_⟩
      show b - ((a : Int) + k + 1).toNat < b - ((a + k : Nat) : Int).toNat
      omega
    · go_wp2_with fail
      go_ret
      have h0 : k = b - a := by omega
      subst h0
      exact ⟨_, _, rfl, HL⟩
end
section
open Go.RowKit Go
def nb (i : Nat) : Blk := (ln4 i, blk4 i)
def nums (c k : Nat) : List Blk := (List.range k).map fun m => (ln4 (c + m), blk4 (c + m))
theorem nums_zero (c : Nat) : nums c 0 = [] := rfl
theorem nums_succ (c k : Nat) : nums c (k + 1) = nb c :: nums (c + 1) k := by
  unfold nums
  rw [List.range_succ_eq_map, List.map_cons, List.map_map]
  refine congrArg _ (List.map_congr_left fun m _ => ?_)
  show (ln4 (c + (m + 1)), blk4 (c + (m + 1))) = (ln4 (c + 1 + m), blk4 (c + 1 + m))
  rw [show c + (m + 1) = c + 1 + m by omega]
theorem nums_len (c k : Nat) : (nums c k).length = k := by simp [nums]
def Nbs (L : List Blk) (c : Nat) : Prop := ∀ x ∈ L, ∃ j, j < c ∧ x = nb j
theorem Nbs.mono {L : List Blk} {c d : Nat} (h : Nbs L c) (hd : c ≤ d) : Nbs L d := fun x hx => by
  obtain ⟨j, h1, h2⟩ := h x hx
  exact ⟨j, by omega, h2⟩
theorem Nbs.at {L : List Blk} {c : Nat} (h : Nbs L c) {l : Lk} {b : List Nat} (hb : atB L l = some b) : ∃ j, j < c ∧ l = ln4 j ∧ b = blk4 j := by
  unfold atB at hb
  obtain ⟨x, hx, rfl⟩ := Option.map_eq_some_iff.1 hb
  have h1 := List.find?_some hx
  obtain ⟨j, h2, h3⟩ := h x (List.mem_of_find?_eq_some hx)
  refine ⟨j, h2, ?_, by rw [h3]; rfl⟩
  have h4 : x.1 = l := of_decide_eq_true h1
  rw [← h4, h3]
  rfl
theorem lok_ln4 (i : Nat) : lok (ln4 i) := .inr ⟨rfl, by show (85 : Nat) < _; decide, .inl ⟨rfl, sha_len _⟩⟩
theorem fit_nb (i : Nat) : fit13 (nb i) = 0 := by
  unfold fit13
  rw [if_pos ⟨lok_ln4 i, rfl⟩, if_neg (by show ¬ 67108864 < (4 : Nat); decide)]
theorem dholds_nb (i : Nat) : dholds (nb i).1.h (nb i).1.d (nb i).2 = true := by
  show dholds 18 (sha (blk4 i)) (blk4 i) = true
  unfold dholds
  rw [if_pos rfl, decide_eq_true rfl]
theorem frt_nums : ∀ (k c : Nat), frt (nums c k) = (k, 0)
  | 0, c => rfl
  | k + 1, c => by
    rw [nums_succ, frt, if_pos (fit_nb c), if_pos (dholds_nb c), frt_nums k (c + 1)]
theorem drf_nums {L : List Blk} {a : Nat} (hL : Nbs L a) : ∀ (k c : Nat) (s : Dr), a ≤ c → c + k ≤ 16777216 → Nbs s.d c → drf L (nums c k) s = none ∨ ∃ D g, drf L (nums c k) s = some ⟨D, s.f + k, g⟩ ∧ D.length = s.d.length + k ∧ Nbs D (c + k)
  | 0, c, s, _, _, hs => .inr ⟨s.d, s.g, by rw [nums_zero, drf]; rfl, rfl, hs⟩
  | k + 1, c, s, ha, hc, hs => by
    rw [nums_succ]
    cases h1 : atB s.d (nb c).1 with
    | some b =>
      obtain ⟨j, h2, h3, rfl⟩ := hs.at h1
      refine .inl (drf_unlike h1 fun e => ?_)
      have := blk4_inj (by omega) (by omega) e
      omega
    | none =>
      cases h2 : atB L (nb c).1 with
      | some b =>
        obtain ⟨j, h3, h4, rfl⟩ := hL.at h2
        refine .inl (drf_clash h1 h2 (fun e => ?_) ?_)
        · have := blk4_inj (by omega) (by omega) e
          omega
        · rw [h4]
          exact dholds_nb j
      | none =>
        rw [drf_new h1 h2]
        rcases drf_nums hL k (c + 1) ⟨nb c :: s.d, s.f + 1, s.g + (nb c).2.length⟩ (by omega) (by omega) (fun x hx => by
          rcases List.mem_cons.1 hx with rfl | hx
          · exact ⟨c, by omega, rfl⟩
          · exact hs.mono (by omega) x hx) with h | ⟨D, g, h3, h4, h5⟩
        · exact .inl h
        · refine .inr ⟨D, g, ?_, ?_, ?_⟩
          · rw [h3]
            show some (⟨D, s.f + 1 + k, g⟩ : Dr) = some ⟨D, s.f + (k + 1), g⟩
            rw [show s.f + 1 + k = s.f + (k + 1) by omega]
          · rw [h4]
            show s.d.length + 1 + k = _
            omega
          · rw [show c + (k + 1) = c + 1 + k by omega]
            exact h5
end
section
open Go.RowKit Go
theorem nbs_mrg {L : List Blk} {c : Nat} (hL : Nbs L c) : ∀ d : List Blk, Nbs d c → Nbs (mrg L d) c
  | [], _ => hL
  | x :: d, h => by
    rw [mrg_cons]
    intro y hy
    unfold putB at hy
    rcases List.mem_cons.1 hy with rfl | hy
    · exact h x (by simp)
    · exact nbs_mrg hL d (fun z hz => h z (List.mem_cons_of_mem _ hz)) y (List.mem_filter.1 hy).1
theorem nbs_sz : ∀ (L : List Blk) {c : Nat}, Nbs L c → szB L = 4 * L.length
  | [], _, _ => rfl
  | x :: L, c, h => by
    obtain ⟨j, _, rfl⟩ := h x (by simp)
    have h1 := nbs_sz L (c := c) (fun z hz => h z (List.mem_cons_of_mem _ hz))
    unfold szB at h1 ⊢
    rw [List.map_cons, List.sum_cons, h1, List.length_cons]
    show 4 + 4 * L.length = _
    omega
def Lays (r : Nat) (L : List Blk) (c k n : Nat) (R : (Nat × Nat) × List Blk) : Prop :=
  R = ((0, 134), L) ∨ (r < L.length + k ∧ R = ((0, 135), L)) ∨ (L.length + k ≤ r ∧ R.1 = (n, 0) ∧ R.2.length = L.length + k ∧ Nbs R.2 (c + k))
theorem layr_nums {r : Nat} {L : List Blk} {c k : Nat} (hn : ndB L) (hL : Nbs L c) (hc : c + k ≤ 16777216) : Lays r L c k k (layr r L (nums c k) 0) := by
  rcases drf_nums hL k c ⟨[], 0, 0⟩ (Nat.le_refl _) hc (fun x hx => by cases hx) with h | ⟨D, g, h1, h2, h3⟩
  · left
    unfold layr
    rw [h]
  · right
    have hw := (drf_drw hn _ _ _ h1 (Drw.start L)).len
    rw [Nat.zero_add] at h1 hw
    rw [show (Dr.mk [] 0 0).d.length + k = k from Nat.zero_add k] at h2
    unfold layr
    rw [h1]
    show (_ ∧ (if (0 : Nat) = 0 then if r < L.length + k then ((0, 135), L) else ((D.length, 0), mrg L D) else ((0, 0), L)) = _) ∨ (_ ∧ (if (0 : Nat) = 0 then if r < L.length + k then ((0, 135), L) else ((D.length, 0), mrg L D) else ((0, 0), L)).1 = _ ∧ (if (0 : Nat) = 0 then if r < L.length + k then ((0, 135), L) else ((D.length, 0), mrg L D) else ((0, 0), L)).2.length = _ ∧ Nbs (if (0 : Nat) = 0 then if r < L.length + k then ((0, 135), L) else ((D.length, 0), mrg L D) else ((0, 0), L)).2 _)
    rw [if_pos rfl]
    by_cases hr : r < L.length + k
    · left
      rw [if_pos hr]
      exact ⟨hr, rfl⟩
    · right
      rw [if_neg hr]
      exact ⟨by omega, by rw [h2], hw, nbs_mrg (hL.mono (by omega)) D h3⟩
theorem addr_nums {r : Nat} {L : List Blk} {c k : Nat} (hn : ndB L) (hL : Nbs L c) (hc : c + k ≤ 16777216) : Lays r L c k k (addr13 r L (nums c k)) := by
  unfold addr13
  rw [frt_nums, show (nums c k).take k = nums c k from List.take_of_length_le (by rw [nums_len]; exact Nat.le_refl _)]
  exact layr_nums hn hL hc
theorem putr_nums {r : Nat} {L : List Blk} {c : Nat} (hn : ndB L) (hL : Nbs L c) (hc : c + 1 ≤ 16777216) : putr13 r L 85 (blk4 c) = ((Lk.none, 134), L) ∨ (r < L.length + 1 ∧ putr13 r L 85 (blk4 c) = ((Lk.none, 135), L)) ∨ (L.length + 1 ≤ r ∧ ∃ M, putr13 r L 85 (blk4 c) = ((ln4 c, 0), M) ∧ M.length = L.length + 1 ∧ Nbs M (c + 1)) := by
  have h := layr_nums (r := r) (k := 1) hn hL hc
  rw [nums_succ, nums_zero] at h
  unfold putr13
  rw [if_pos (by decide), if_neg (by show ¬ 67108864 < (4 : Nat); decide), lof4]
  show (if (layr r L [nb c] 0).1.2 = 0 then _ else _) = _ ∨ (_ ∧ (if (layr r L [nb c] 0).1.2 = 0 then _ else _) = _) ∨ (_ ∧ ∃ M, (if (layr r L [nb c] 0).1.2 = 0 then _ else _) = _ ∧ _)
  obtain ⟨R, hR⟩ : ∃ R, layr r L [nb c] 0 = R := ⟨_, rfl⟩
  rw [hR] at h
  show (if (layr r L [nb c] 0).1.2 = 0 then ((ln4 c, 0), (layr r L [nb c] 0).2) else ((Lk.none, (layr r L [nb c] 0).1.2), (layr r L [nb c] 0).2)) = _ ∨ (_ ∧ (if (layr r L [nb c] 0).1.2 = 0 then ((ln4 c, 0), (layr r L [nb c] 0).2) else ((Lk.none, (layr r L [nb c] 0).1.2), (layr r L [nb c] 0).2)) = _) ∨ (_ ∧ ∃ M, (if (layr r L [nb c] 0).1.2 = 0 then ((ln4 c, 0), (layr r L [nb c] 0).2) else ((Lk.none, (layr r L [nb c] 0).1.2), (layr r L [nb c] 0).2)) = _ ∧ _)
  rw [hR]
  rcases h with rfl | ⟨h1, rfl⟩ | ⟨h1, h2, h3, h4⟩
  · exact .inl rfl
  · exact .inr (.inl ⟨h1, rfl⟩)
  · refine .inr (.inr ⟨h1, R.2, ?_, h3, h4⟩)
    rw [h2]
    rfl
end
section
open Go.RowKit Go.Maps Go.Sort Go
theorem keysL_gives (F : Fence) (n : Nat) (h10 : F.fn 84) (hro : F.round = none) (hn : 1 ≤ n) (Bm b nn : Nat) (D0 : DataW Unit) (w : World) (hBm : Bm < w.heap.size) (hm : w.cell? ⟨Bm, 0, none⟩ = some (.map (some b))) (hown : w.ownsMap Tryz.prog 38 blkElem b nn D0) :
    SeqGives F n Tryz.prog 84 #[.pointer (some ⟨Bm, 0, none⟩)] lkv (fun ss => ∃ left : Lit → Bool, (∀ kl, left kl = false) ∧ LCol D0 left ss) (Maps.size D0) w := fun l J W hW hJ hY h0 => by
  have hown' : W.ownsMap Tryz.prog 38 blkElem b nn D0 := by
    have hbl := hown.lt
    obtain ⟨es, clock, hb, Ft, hs, hD⟩ := hown
    exact ⟨es, clock, (hW.block b hbl).trans hb, Ft, hs, hD⟩
  refine (keysL_in F n h10 hro hn l Bm b nn D0 J (fun pre x W1 _ h1 h2 => hY pre x W1 h1 h2) W hJ ((hW.cell (p := ⟨Bm, 0, none⟩) hBm).trans hm) hown' h0).mono ?_
  rintro e W' ⟨hv, left, ss, hl, hc, hj⟩
  exact ⟨hv, ss, ⟨left, hl, hc⟩, hj⟩
set_option maxRecDepth 1000000 in
set_option maxHeartbeats 2000000 in
theorem appendSeqL_in (F : Fence) (n : Nat) (h11 : F.fn 83) (hro : F.round = none) (hn : 2 ≤ n) (g : Nat) (lb : Array Value) (hFg : F.fn g) (eg : ∀ args w, (callFunc g args).run Tryz.prog w = .ok (.enter g args) w)
    (S : List Lk → Prop) (N : Nat) (hN : N ≤ 1000000) (w : World) (hseq : SeqGives F (n - 1) Tryz.prog g lb lkv S N w) :
    CallsIn F n Tryz.prog 83 #[.slice none 0 0, .func (.func g) #[] lb] w fun e w' => ∃ (v : Value) (ss : List Lk), e = .returned v ∧ S ss ∧ w'.ownsRow w.heap.size 38 4 v ss.length (lfl ss) ∧ Below w.heap.size w w' := by
  have h1 : 1 ≤ n := by omega
  refine callsIn_of_wp_marks Tryz.func83 rfl h11 ?_ hro
  simp only [Tryz.ntmps83, List.size_toArray, List.length_cons, List.length_nil, Nat.reduceAdd, Nat.reduceSub, Array.replicate_succ, Array.replicate_zero, List.push_toArray, List.append_toArray, List.nil_append, List.cons_append]
  gi_wp2
  refine wpIn_rangeFunc ?_
  intro fn hfn
  rw [hro]
  obtain ⟨W0, hW0⟩ : ∃ W0, w.alloc (.cells #[.slice none 0 0] 68) = W0 := ⟨_, rfl⟩
  have hs0 : W0.heap.size = w.heap.size + 1 := by rw [← hW0]; simp
  have hv0 : W0.heap[w.heap.size]? = some (.cells #[.slice none 0 0] 68 (0, 0)) := by rw [← hW0]; exact World.alloc_heap_new w _
  have hb0 : Below w.heap.size w W0 := by rw [← hW0]; exact (Below.refl _ w).alloc (Nat.le_refl _) _
  rw [hW0]
  obtain ⟨W1, hW1⟩ : ∃ W1, (W0.alloc (.deferred (some []))).alloc (.loop (apR9 fn (.func (.func g) #[] lb) w.heap.size W0.heap.size .ready)) = W1 := ⟨_, rfl⟩
  have hold : ∀ k, k < W0.heap.size → W1.heap[k]? = W0.heap[k]? := fun k hk => by
    rw [← hW1]; exact (Below.heap_alloc _ _ k (by simp; omega)).trans (Below.heap_alloc _ _ k hk)
  have hb1 : Below w.heap.size w W1 := by rw [← hW1]; exact (hb0.alloc hb0.size _).alloc (by have := hb0.size; simp; omega) _
  have hs1 : W1.heap.size = W0.heap.size + 2 := by rw [← hW1]; simp
  have hM : ApL w fn (.func (.func g) #[] lb) w.heap.size (W0.heap.size + 1) W0.heap.size [] W1 :=
    ⟨⟨_, (hold w.heap.size (by omega)).trans hv0, ⟨rfl, .inl ⟨rfl, rfl⟩⟩⟩,
     by rw [← hW1]; have := World.alloc_heap_new (W0.alloc (.deferred (some []))) (.loop (apR9 fn (.func (.func g) #[] lb) w.heap.size W0.heap.size .ready)); rwa [World.size_alloc] at this,
     by rw [← hW1]; exact (Below.heap_alloc _ _ _ (by simp)).trans (World.alloc_heap_new W0 _), hb1⟩
  refine ⟨W0.heap.size + 1, [{ target := .collected W0.heap.size, args := #[] }], W1, { target := .fn (.func g) lb, args := #[.func (.yield (W0.heap.size + 1)) #[] #[]] }, W1, g,
    #[.func (.yield (W0.heap.size + 1)) #[] #[]] ++ lb, W1, ?_, ?_, ?_, ?_, fun _ => h1, ?_⟩
  · rw [← hW1]; exact run_enterLoop_outer _ _ _ _ _
  · simp [resolve, go_sem]
  · intro f' hf'; simp [Target.leads] at hf'; subst hf'; exact hFg
  · simp [invoke, go_sem, eg]
  · refine (hseq (W0.heap.size + 1) (ApL w fn (.func (.func g) #[] lb) w.heap.size (W0.heap.size + 1) W0.heap.size) W1 hb1 (ap_abides9 _ _ _ _ _ _ _ hb1.size)
      (fun pre x W hJ hl => apY9 F (n - 1 - 1) w fn hfn _ w.heap.size (W0.heap.size + 1) W0.heap.size (by omega) (by omega) (by omega) (Nat.le_refl _) (by omega) N hN pre x W hJ hl) hM).mono ?_
    rintro e W2 ⟨⟨v0, rfl⟩, ss, hS, h2⟩
    obtain ⟨v, hv, hrow⟩ := h2.box
    have hend := run_endLoop (P := Tryz.prog) h2.L (by simp [apR9])
    obtain ⟨W3, hW3⟩ : ∃ W3, W2.putObj (W0.heap.size + 1) (.loop (apR9 fn (.func (.func g) #[] lb) w.heap.size W0.heap.size .exhausted)) = W3 := ⟨_, rfl⟩
    change Sem.run Tryz.prog (Instr.endLoop (W0.heap.size + 1)) W2 = _ at hend
    have hend' : Sem.run Tryz.prog (Instr.endLoop (W0.heap.size + 1)) W2 = Result.ok none W3 := by rw [← hW3]; exact hend
    have hg3 : W2.grownBy W3 (some (W0.heap.size + 1)) := by rw [← hW3]; exact grown_put9 _ _ _
    have hv3 : W3.heap[w.heap.size]? = some (.cells #[v] 68 (0, 0)) := by rw [← hW3]; exact (World.putObj_heap_other (by omega)).trans hv
    have hK3 : W3.heap[W0.heap.size]? = some (.deferred (some [])) := by rw [← hW3]; exact (World.putObj_heap_other (by omega)).trans h2.K
    have hrow3 := hrow.kept hg3 (own_ne9 hrow h2.L (fun cur e => by cases e))
    have hb3 : Below w.heap.size w W3 := h2.below.grown hg3 h2.below.size (fun k e => by cases e; omega)
    have hc3 := blk_cell (j := 0) (v := v) hv3 rfl
    clear hW3 hend
    refine ⟨none, W3, hend', ?_⟩
    gi_wp2
    rw [← hs0]
    refine ⟨by simp, .inl ⟨_, _, rfl, run_takeDeferred hK3, ?_⟩⟩
    exact ⟨_, results_tmp rfl _ _ _, v, ss, rfl, hS, hrow3.kept (grown_put9 _ _ _) (own_ne9 hrow3 hK3 (fun cur e => by cases e)), hb3.grown (grown_put9 _ _ _) hb3.size (fun k e => by cases e; omega)⟩
set_option maxRecDepth 1000000 in
set_option maxHeartbeats 1000000 in
theorem collectL_in (F : Fence) (n : Nat) (h8 : F.fn 56) (h11 : F.fn 83) (hro : F.round = none) (hn : 3 ≤ n) (g : Nat) (lb : Array Value) (hFg : F.fn g) (eg : ∀ args w, (callFunc g args).run Tryz.prog w = .ok (.enter g args) w)
    (S : List Lk → Prop) (N : Nat) (hN : N ≤ 1000000) (w : World) (hseq : SeqGives F (n - 1 - 1) Tryz.prog g lb lkv S N w) :
    CallsIn F n Tryz.prog 56 #[.func (.func g) #[] lb] w fun e w' => ∃ (v : Value) (ss : List Lk), e = .returned v ∧ S ss ∧ w'.ownsRow w.heap.size 38 4 v ss.length (lfl ss) ∧ Below w.heap.size w w' := by
  have e11 : ∀ args w, (callFunc 83 args).run Tryz.prog w = .ok (.enter 83 args) w := enters_of Tryz.func83 (by kernel_rfl) rfl
  refine callsIn_of_wp Tryz.func56 rfl h8 ?_ hro
  simp only [Tryz.ntmps56, List.size_toArray, List.length_cons, List.length_nil, Nat.reduceAdd, Nat.reduceSub, Array.replicate_succ, Array.replicate_zero, List.push_toArray, List.append_toArray, List.nil_append, List.cons_append]
  gi_wp2
  refine ⟨fun _ => by omega, ?_⟩
  refine (appendSeqL_in F (n - 1) h11 hro (by omega) g lb hFg eg S N hN _ hseq).mono ?_
  rintro e w' ⟨v, ss, rfl, hS, hrow, hb⟩
  gi_wp2
  go_ret
  exact ⟨v, ss, rfl, hS, hrow, hb⟩
end
section
open Go.RowKit Go
set_option maxRecDepth 1000000 in
theorem keys13_any (w : World) (B : Nat) : Calls Tryz.prog 57 #[.map (some B)] w fun e w' => e = .returned (.func (.func 84) #[] #[.pointer (some ⟨w.heap.size, 0, none⟩)]) ∧ w' = w.alloc (.cells #[.map (some B)] 46) := by
  have hmf : ∀ (fn : Fn) (first cap : Array Value) (w : World), (Instr.makeFunc fn first cap).run Tryz.prog w = .ok (.func fn first cap) w := fun _ _ _ _ => rfl
  go_enter Tryz.func57, Tryz.ntmps57
  go_wp2_with fail
  go_ret
  exact ⟨rfl, rfl⟩
theorem collect13_any (w : World) (Bm B : Nat) (L : List Blk) (hm : w.cell? ⟨Bm, 0, none⟩ = some (.map (some B))) (hM : Mlb w B L) (hL : L.length ≤ 65536) : Calls Tryz.prog 56 #[.func (.func 84) #[] #[.pointer (some ⟨Bm, 0, none⟩)]] w fun e w' => ∃ (v : Value) (ss : List Lk), e = .returned v ∧ ss.Perm (L.map (·.1)) ∧ w'.ownsRow w.heap.size 38 4 v ss.length (lfl ss) ∧ Below w.heap.size w w' := by
  obtain ⟨D, h1, h2, h3, -⟩ := hM.ex
  have hBm : Bm < w.heap.size := World.block_lt_of_cell? w ⟨Bm, 0, none⟩ hm
  have hs := keysL_gives { fn := fun _ => True } 1 trivial rfl (Nat.le_refl _) Bm B L.length D w hBm hm h1
  have hc := collectL_in { fn := fun _ => True } 3 trivial trivial rfl (Nat.le_refl _) _ #[.pointer (some ⟨Bm, 0, none⟩)] trivial (enters_of Tryz.func84 (by kernel_rfl) rfl) _ (Maps.size D) (by rw [h2]; omega) w hs
  refine (hc.calls (fun k d hd => by cases hd)).mono ?_
  rintro e w' ⟨v, ss, rfl, ⟨left, hl, hcol⟩, ho, hb⟩
  exact ⟨v, ss, rfl, LCol.perm hM h3 hcol hl, ho, hb⟩
structure UnsP (w : World) (g B r : Nat) (L : List Blk) (e : Ending) (w' : World) : Prop where
  e : ∃ (v : Value) (ss : List Lk), e = .returned v ∧ ss.Perm (L.map (·.1)) ∧ w'.ownsRow w.heap.size 38 4 v ss.length (lfl ss)
  s : Sto w' g B r L
  k : Kp (fun q => q = g) w w'
set_option maxRecDepth 1000000 in
set_option maxHeartbeats 1000000 in
theorem unsorted13_any (w : World) (g B r : Nat) (L : List Blk) (hS : Sto w g B r L) : Calls Tryz.prog 37 #[.pointer (some ⟨g, 0, none⟩)] w (UnsP w g B r L) := by
  have hlk := hS.lock
  have HE := hide hlk.1
  have HK1 := hide hlk.2
  have HS := hide hS
  have c1 : w.cell? ⟨g, 1, none⟩ = some (.int .i32 0) := blk_cell (j := 1) hS.c rfl
  have f1 := blk_frozen 1 hS.c
  clear hlk hS
  go_enter_defers Tryz.func37, Tryz.ntmps37
  go_upto_region 3 with (go_at_call 28; refine (lockFree ⟨g, 1, none⟩ _ c1 f1).mono ?_; rintro e w' ⟨rfl, rfl⟩)
  have HZ : Hid ((w.setCell ⟨g, 1, none⟩ (.int .i32 1)).heap.size = w.heap.size) := by show _ = _; simp [World.setCell]
  generalize w.setCell ⟨g, 1, none⟩ (.int .i32 1) = w1 at *
  clear c1 f1
  have s3 : w1.cell? ⟨g, 3, none⟩ = some (.map (some B)) := blk_cell (j := 3) HE.out.c rfl
  go_wp2_with fail
  refine (keys13_any w1 B).mono ?_
  rintro e w2 ⟨rfl, hw2⟩
  have hb12 : Below w1.heap.size w1 w2 := by rw [hw2]; exact below_alloc4 w1 _
  have hm2 : w2.cell? ⟨w1.heap.size, 0, none⟩ = some (.map (some B)) := by rw [hw2]; exact blk_cell (j := 0) (heap_alloc_new w1 _) rfl
  have HE2 := hide (HE.out.next hb12)
  have HB12 := hide hb12
  have HC := hide (collect13_any w2 w1.heap.size B L hm2 HE2.out.m (by have h1 := HS.out.n; have h2 := HS.out.h; omega))
  clear hw2 hb12 hm2 s3
  go_wp2_with fail
  refine HC.out.mono ?_
  rintro e w3 ⟨v, ss, rfl, hp, ho, hb3⟩
  have HE3 := hide (HE2.out.next hb3)
  have HP := hide hp
  have HO := hide ho
  have HB3 : Hid (Below w1.heap.size w1 w3) := HB12.out.trans (hb3.mono HB12.out.size)
  have HZ2 : Hid (w1.heap.size ≤ w2.heap.size) := HB12.out.size
  clear hp ho hb3 HC
  go_wp2_with fail
  refine leaves_cons (f := 29) (args := #[.pointer (some ⟨g, 1, none⟩)]) (by simp) (by simp [go_sem]) ?_
  refine (unlockLate ⟨g, 1, none⟩ .returning _ (blk_cell (j := 1) HE3.out.c rfl) (blk_frozen 1 HE3.out.c)).mono ?_
  rintro e u' w'' ⟨rfl, rfl, rfl⟩
  have hu := HE3.out.unlock rfl HS.out.h HS.out.n
  have hgl := blk_lt HE.out.c
  have hk : Kp (fun q => q = g) w _ := (HK1.out.trans (Kp.of_below (S := fun _ => False) HB3.out) (fun _ _ e => e.elim)).trans hu.2 (fun _ _ e => e)
  refine ⟨v, (results_tmp (t := 2) rfl _ _ _).trans ?_, ⟨⟨v, ss, rfl, HP.out, own_mono (hu.2.owns HO.out (fun q hq e => ?_)) (by have h1 := HZ.out; have h2 := HZ2.out; omega)⟩, hu.1, hk⟩⟩
  · rfl
  · have h1 := (HO.out.lt q hq).1
    have h2 := HZ2.out
    omega
end
section
open Go.RowKit Go
set_option maxRecDepth 1000000 in
set_option maxHeartbeats 1000000 in
theorem grow_any (w : World) (n : Nat) (h0 : 0 < n) (hn : n ≤ 1000) :
    Calls Tryz.prog 105 #[.slice none 0 0, .int .i64 (n : Nat)] w fun e w' => ∃ v, e = .returned v ∧ w'.ownsRow w.heap.size 5 1 v 0 (bv []) ∧ Below w.heap.size w w' := by
  obtain ⟨i5, hi, hz0, hz1, hz2⟩ := info5_ex
  have hold : (Builtin.firstCells i5.size 0 (.slice none 0 0)).run Tryz.prog w.drew = .ok ([] : List Value).toArray w.drew := run_firstCells_none w.drew i5.size 0 0 0
  have hrz : ∀ ty, (Builtin.append_ #[41, 3] ty #[.slice none 0 0, .int .i64 (n : Nat)]).run Tryz.prog w = .ok (.slice (some ⟨w.heap.size, 0, none⟩) n (grownCap w n 0 5)) (w.drew.alloc (.cells (Builtin.zeroCells (Value.int .u8 0).cells n ++ Builtin.zeroCells (Value.int .u8 0).cells (grownCap w n 0 5 - n)) 5)) := fun ty => by
    have h := Lib.run_append_grow_zeros w 41 3 ty 5 i5 (.int .u8 0) .i64 .i64 Tryz.underlying41 Tryz.underlying3 hi hz0 none 0 0 [] hold n h0 (by rw [hz1]; omega) (by omega) (by omega) (by rw [hz2]; omega) (growslice_fits (by omega) (by rw [hz2]; omega))
    simpa using h
  have hG := grownCap_ge w n 0 5
  have hM := grownCap_le_maxLen w n 0 5 (by unfold maxLen; omega)
  have HO : Hid ((w.drew.alloc (.cells (Builtin.zeroCells (Value.int .u8 0).cells n ++ Builtin.zeroCells (Value.int .u8 0).cells (grownCap w n 0 5 - n)) 5)).ownsRow w.heap.size 5 1 (.slice (some ⟨w.heap.size, 0, none⟩) 0 (grownCap w n 0 5)) 0 (bv [])) := by
    refine ⟨rfl, .inr ⟨w.heap.size, grownCap w n 0 5, _, rfl, Nat.le_refl _, heap_alloc_new w.drew _, by omega, hM, ?_, by simp [bv]⟩⟩
    simp [Builtin.zeroCells, Value.cells]
    omega
  have HB : Hid (Below w.heap.size w (w.drew.alloc (.cells (Builtin.zeroCells (Value.int .u8 0).cells n ++ Builtin.zeroCells (Value.int .u8 0).cells (grownCap w n 0 5 - n)) 5))) := (Below.refl w.heap.size w).drew.alloc (Nat.le_refl _) _
  clear hold hi hz0 hz1 hz2
  have h1 : ¬ ((n : Int) < 0) := by omega
  have h4 : (n : Int) > 0 := by omega
  have hG63 : (grownCap w n 0 5 : Int) ≤ 9223372036854775807 := by unfold maxLen at hM; omega
  generalize grownCap w n 0 5 = G at *
  go_enter Tryz.func105, Tryz.ntmps105
  go_wp2_with (at_builtin; refine Lib.wpList_append_run _ rfl _ _ _ _ rfl _ _ rfl rfl _ _ (hrz _) ?_)
  go_ret
  exact ⟨_, rfl, HO.out, HB.out⟩
end
section
open Go.RowKit Go
structure Rws (w : World) (g : Nat) (vs : List Value) (xss : List (List Nat)) : Prop where
  n : vs.length = xss.length
  c : ∀ i, i < vs.length → w.cell? ⟨g, i, none⟩ = some (vs.getD i undef)
  b : ∀ i, i < vs.length → BSl w (vs.getD i undef) (xss.getD i [])
theorem Rws.below {w w' : World} {g : Nat} {vs : List Value} {xss : List (List Nat)} (h : Rws w g vs xss) (hb : Below w.heap.size w w') : Rws w' g vs xss :=
  ⟨h.n, fun i hi => keep_below hb _ _ (h.c i hi), fun i hi => (h.b i hi).move (keep_below hb)⟩
def fln (xss : List (List Nat)) (k : Nat) : Nat := (xss.take k).flatten.length
def fla (xss : List (List Nat)) (k : Nat) : List Nat := (xss.take k).flatten
theorem fla_len (xss : List (List Nat)) (k : Nat) : (fla xss k).length = fln xss k := rfl
theorem fla_succ (xss : List (List Nat)) (k : Nat) (hk : k < xss.length) : fla xss (k + 1) = fla xss k ++ xss.getD k [] := by
  unfold fla
  rw [List.take_succ_eq_append_getElem hk, List.flatten_append]
  simp [List.getD, hk]
theorem fln_succ (xss : List (List Nat)) (k : Nat) (hk : k < xss.length) : fln xss (k + 1) = fln xss k + (xss.getD k []).length := by
  rw [← fla_len, ← fla_len, fla_succ xss k hk, List.length_append]
theorem fln_le (xss : List (List Nat)) (k : Nat) : fln xss k ≤ fln xss xss.length := by
  unfold fln
  rw [List.take_length]
  conv => rhs; rw [← List.take_append_drop k xss, List.flatten_append, List.length_append]
  omega
set_option maxRecDepth 1000000 in
set_option maxHeartbeats 1000000 in
theorem concat_any (w : World) (g n : Nat) (vs : List Value) (xss : List (List Nat)) (hr : Rws w g vs xss) (hn : vs.length = n) (hn0 : n ≤ 100) (h0 : 0 < fln xss n) (hl : fln xss n ≤ 1000) :
    Calls Tryz.prog 66 #[.slice (some ⟨g, 0, none⟩) n n] w fun e w' => ∃ v, e = .returned v ∧ w'.ownsRow w.heap.size 5 1 v (fln xss n) (bv (fla xss n)) ∧ Below w.heap.size w w' := by
  have HR := hide hr
  have HN := hide hn
  have HL := hide hl
  have H0 := hide h0
  have HX : Hid (xss.length = n) := by have := hr.n; show _ = _; omega
  clear hr hn hl h0
  go_enter Tryz.func66, Tryz.ntmps66
  go_wp2_with fail
  go_loopw [3, 11] (fun ss ii wx => wx = w ∧ ∃ k : Nat, k ≤ n ∧ ii = .int .i64 (k : Nat) ∧ ss = .int .i64 (fln xss k : Nat)) (fun _ ii _ => n - (intOf ii).toNat)
  case atStart => exact ⟨rfl, 0, by omega, rfl, rfl⟩
  case round =>
    obtain ⟨rfl, k, hk, rfl, rfl⟩ := hrel
    by_cases hlt : k < n
    · have g1 : (k : Int) < (n : Int) := by omega
      have q1 := HR.out.c k (by have := HN.out; omega)
      have HB1 := hide (HR.out.b k (by have := HN.out; omega))
      have HF := hide (fln_succ xss k (by have := HX.out; omega))
      have HF2 := hide (fln_le xss (k + 1))
      obtain ⟨⟨a, cap, hv, _⟩, _, _⟩ := HB1.out
      rw [hv] at q1
      have g3 : fln xss k + (xss.getD k []).length ≤ 1000 := by have := HF2.out; rw [HF.out, HX.out] at this; have := HL.out; omega
      have HSU : Hid (fln xss k + (xss.getD k []).length = fln xss (k + 1)) := HF.out.symm
      clear hv HF HF2
      generalize fln xss k = s1 at *
      generalize (xss.getD k []).length = s3 at *
      have g2 : ¬ ((s1 : Int) + (s3 : Int) < 0) := by omega
      go_wp2_with fail
      go_roundw
      case rel => exact ⟨trivial, k + 1, by omega, by go_num, by have := HSU.out; congr 1; omega⟩
      case measure => simp [intOf]; omega
    · have hkn : k = n := by omega
      subst hkn
      have g1 : ¬ (k : Int) < (k : Int) := by omega
      generalize hS : fln xss k = S at *
      have HS := hide hS
      clear hS hlt
      have h1 := H0.out
      have h2 := HL.out
      go_wp2_with fail
      refine (grow_any wr S h1 h2).mono ?_
      rintro e w1 ⟨v1, rfl, ho1, hb1⟩
      have HO1 := hide ho1
      have HB1 := hide hb1
      clear ho1 hb1
      obtain ⟨a1, c1, hv1, _⟩ := own_form HO1.out
      subst hv1
      go_wp2_with fail
      go_loopw [6, 27] (fun vv ii wx => ∃ j : Nat, j ≤ k ∧ ii = .int .i64 (j : Nat) ∧ Hid (wx.ownsRow wr.heap.size 5 1 vv (fln xss j) (bv (fla xss j))) ∧ Hid (Below wr.heap.size wr wx)) (fun _ ii _ => k - (intOf ii).toNat)
      case atStart => exact ⟨0, by omega, rfl, HO1, HB1⟩
      case round => as_aux_lemma =>
        rename World => wz
        obtain ⟨j, hj, rfl, HO, HB⟩ := hrel
        clear HO1 HB1
        by_cases hjl : j < k
        · have g5 : (j : Int) < (k : Int) := by omega
          have HR2 := hide (HR.out.below HB.out)
          have q1 := HR2.out.c j (by have := HN.out; omega)
          have HBL := hide (HR2.out.b j (by have := HN.out; omega))
          have HF := hide (fln_succ xss j (by have := HX.out; omega))
          have HFA := hide (fla_succ xss j (by have := HX.out; omega))
          have HF2 : Hid (fln xss (j + 1) ≤ 1000) := by have := fln_le xss (j + 1); rw [HX.out, HS.out] at this; exact Nat.le_trans this HL.out
          obtain ⟨⟨a, cap, hv, _⟩, _, _⟩ := HBL.out
          rw [hv] at q1 HBL
          obtain ⟨a2, c2, hv2, _⟩ := own_form HO.out
          subst hv2
          have HZ : Hid (fln xss j + (xss.getD j []).length ≤ 140737488355328) := by have := HF2.out; rw [HF.out] at this; show _ ≤ _; omega
          clear hv HR2
          go_wp2_with (at_builtin; refine append_bsl rfl _ _ rfl wr.heap.size _ (fln xss j) (fla xss j) rfl HO.out _ (xss.getD j []) rfl HBL.out HZ.out HB.out.size ?_)
          intro v7 w7 ho7 hg7
          have HB7 : Hid (Below wr.heap.size wr w7) := HB.out.grown hg7 HB.out.size (fun g hg => (HO.out.lt g hg).1)
          have HO7 : Hid (w7.ownsRow wr.heap.size 5 1 v7 (fln xss (j + 1)) (bv (fla xss (j + 1)))) := by show World.ownsRow _ _ _ _ _ _ _; rw [HF.out, HFA.out]; exact ho7
          clear ho7 hg7 HO HB HBL HF HFA HF2 HZ
          go_wp2_with fail
          go_roundw
          case rel => exact ⟨j + 1, by omega, by go_num, HO7, HB7⟩
          case measure => simp [intOf]; omega
        · have hjk : j = k := by omega
          subst hjk
          have g5 : ¬ (j : Int) < (j : Int) := by omega
          have ho := HO.out
          rw [HS.out] at ho
          obtain ⟨a2, c2, hv2, _⟩ := own_form ho
          subst hv2
          have HO2 := hide ho
          clear ho HO
          go_wp2_with fail
          go_ret
          exact ⟨_, rfl, by rw [HS.out]; exact HO2.out, HB.out⟩
end
section
open Go.RowKit Go
def lrow (l : Lk) : List Nat := if lok l then lbytes l else []
theorem lrow_byte {l : Lk} (h : ∀ x ∈ l.d, x < 256) : ∀ x ∈ lrow l, x < 256 := by
  unfold lrow
  split
  · exact lbytes_byte (by assumption) h
  · simp
set_option maxRecDepth 1000000 in
set_option maxHeartbeats 1000000 in
theorem bytes4_any (w : World) (l : Lk) (hl : Lkb l) :
    Calls Tryz.prog 41 #[lkv l] w fun e w' => ∃ v', e = .returned (.tuple #[v', .int .i64 (if lok l then 0 else 40)]) ∧ w'.ownsRow w.heap.size 5 1 v' (lrow l).length (bv (lrow l)) ∧ Below w.heap.size w w' := by
  have HL := hide hl
  have HT : Hid ((w.alloc (.cells #[.int .i64 l.v, .int .u64 (l.c : Nat), .int .u64 (l.h : Nat), .string (nstr l.d)] 38)).heap[w.heap.size]? = some (.cells (lcs l) 38 (0, 0))) := heap_alloc_new w _
  have HB := hide (below_alloc4 w (.cells #[.int .i64 l.v, .int .u64 (l.c : Nat), .int .u64 (l.h : Nat), .string (nstr l.d)] 38))
  simp only [lkv]
  by_cases hlk : lok l
  · have HLR : Hid (lrow l = lbytes l) := by show _ = _; unfold lrow; rw [if_pos hlk]
    rw [if_pos hlk, HLR.out]
    have HLK := hide hlk
    clear hlk hl
    go_enter Tryz.func41, Tryz.ntmps41
    go_wp2_with fail
    generalize w.alloc (.cells #[.int .i64 l.v, .int .u64 (l.c : Nat), .int .u64 (l.h : Nat), .string (nstr l.d)] 38) = w0 at *
    refine (check_any w0 l HL.out).mono ?_
    rintro e w1 ⟨rfl, hb1⟩
    rw [if_pos HLK.out]
    have q0 : w1.heap[w.heap.size]? = some (.cells (lcs l) 38 (0, 0)) := (hb1.block _ (blk_lt HT.out)).trans HT.out
    have HB1 : Hid (Below w.heap.size w w1) := HB.out.trans (hb1.mono HB.out.size)
    have c2 : w1.cell? ⟨w.heap.size, 2, none⟩ = some (.int .u64 (l.h : Nat)) := blk_cell q0 rfl
    have c3 : w1.cell? ⟨w.heap.size, 3, none⟩ = some (.string (nstr l.d)) := blk_cell q0 rfl
    have cv := conv_sb w1 (nstr l.d)
    go_wp2_with fail
    have HS1 : Hid (BSl (Lib.bytesWorld w1 5 (nstr l.d)) (.slice (some ⟨w1.heap.size, 0, none⟩) (nstr l.d).size (grownCap w1 (nstr l.d).size 0 5)) l.d) := by
      have h := conv_sb_bsl w1 (nstr l.d) (by rw [HL.out.size]; have := HL.out.n; omega)
      rw [sl_nstr HL.out.d] at h
      exact h
    have HB2 : Hid (Below w.heap.size w (Lib.bytesWorld w1 5 (nstr l.d))) := HB1.out.trans ((conv_sb_below w1 _).mono HB1.out.size)
    have HT2 : Hid ((Lib.bytesWorld w1 5 (nstr l.d)).heap[w.heap.size]? = some (.cells (lcs l) 38 (0, 0))) := (Lib.bytesWorld_at_old w1 5 _ _ (blk_lt q0)).trans q0
    clear cv c2 c3 q0 hb1
    generalize grownCap w1 (nstr l.d).size 0 5 = G at *
    generalize w1.heap.size = gg at *
    generalize Lib.bytesWorld w1 5 (nstr l.d) = w2 at *
    refine (dlay_any w2 l.h _ l.d HL.out.h HS1.out).mono ?_
    rintro e w3 ⟨vd, rfl, ho3, hb3⟩
    have HDL := hide (dlay_ok (lok_okd HLK.out))
    rw [HDL.out] at ho3 ⊢
    have HO3 := hide ho3
    have HB3 : Hid (Below w.heap.size w w3) := HB2.out.trans (hb3.mono HB2.out.size)
    have q3 : w3.heap[w.heap.size]? = some (.cells (lcs l) 38 (0, 0)) := (hb3.block _ (blk_lt HT2.out)).trans HT2.out
    have HWB : Hid (w.heap.size ≤ w2.heap.size) := HB2.out.size
    have c0 : w3.cell? ⟨w.heap.size, 0, none⟩ = some (.int .i64 l.v) := blk_cell q3 rfl
    have c1 : w3.cell? ⟨w.heap.size, 1, none⟩ = some (.int .u64 (l.c : Nat)) := blk_cell q3 rfl
    clear ho3 hb3 q3 HS1 HT2 HB2 HDL
    obtain ⟨ad, cd, hvd, _⟩ := own_form HO3.out
    subst hvd
    have HBYT : Hid (∀ x ∈ l.h :: l.d.length :: l.d, x < 256) := by
      have hk := lok_okd HLK.out
      intro x hx
      unfold okd at hk
      simp only [List.mem_cons] at hx
      rcases hx with e | e | e
      · omega
      · omega
      · exact HL.out.d x e
    have HRL : Hid ((l.h :: l.d.length :: l.d).length ≤ 66) := by
      have hk := lok_okd HLK.out
      unfold okd at hk
      show _ ≤ _
      simp
      omega
    by_cases hv0 : l.v = 0
    · as_aux_lemma =>
      have HBY : Hid (lbytes l = l.h :: l.d.length :: l.d) := by show _ = _; unfold lbytes; rw [if_pos hv0]
      rw [hv0] at c0 ⊢
      generalize l.h :: l.d.length :: l.d = rw3 at *
      go_wp2_with fail
      go_ret2
      exact ⟨_, rfl, by rw [HBY.out]; exact own_mono4 HO3.out HWB.out, HB3.out⟩
    · as_aux_lemma =>
      have hv1 : l.v = 1 := by
        rcases HLK.out with h1 | h1
        · exact absurd h1.1 hv0
        · exact h1.1
      have HC : Hid (l.c < 9223372036854775808) := by
        rcases HLK.out with h1 | h1
        · exact absurd h1.1 hv0
        · exact h1.2.1
      have HBY : Hid (lbytes l = 1 :: digs 9 l.c ++ (l.h :: l.d.length :: l.d)) := by show _ = _; unfold lbytes; rw [if_neg hv0]
      have HDB : Hid (∀ x ∈ digs 9 l.c, x < 256) := fun x hx => lbytes_byte HLK.out HL.out.d x (by rw [HBY.out]; simp [hx])
      rw [hv1] at c0 ⊢
      clear hv0 hv1
      generalize l.h :: l.d.length :: l.d = rw3 at *
      go_wp2_with fail
      refine (vlay_any (l.c : Nat) w3 (by omega) (by have := HC.out; omega)).mono ?_
      rintro e w4 ⟨vc, rfl, ho4, hb4⟩
      rw [Int.toNat_natCast] at ho4
      have HV4 := hide (BSl.own ho4 HDB.out)
      have HD4 := hide (BSl.own (own_below4 HO3.out hb4) HBYT.out)
      have HB4 : Hid (Below w.heap.size w w4) := HB3.out.trans (hb4.mono HB3.out.size)
      obtain ⟨ac, cc, hvc, _⟩ := own_form ho4
      subst hvc
      clear ho4 hb4 HO3 HB3 c0 c1
      have HDN := hide (digs_len 9 l.c)
      have hb5 := below_alloc4 w4 (.cells #[.int .u8 1] 5)
      have hb6 := hb5.trans ((below_alloc4 (w4.alloc (.cells #[.int .u8 1] 5)) (.cells #[.slice (some ⟨w4.heap.size, 0, none⟩) 1 1, .slice ac (digs 9 l.c).length cc, .slice ad rw3.length cd] 41)).mono hb5.size)
      have HRW : Hid (Rws ((w4.alloc (.cells #[.int .u8 1] 5)).alloc (.cells #[.slice (some ⟨w4.heap.size, 0, none⟩) 1 1, .slice ac (digs 9 l.c).length cc, .slice ad rw3.length cd] 41)) (w4.heap.size + 1) [.slice (some ⟨w4.heap.size, 0, none⟩) 1 1, .slice ac (digs 9 l.c).length cc, .slice ad rw3.length cd] [[1], digs 9 l.c, rw3]) := by
        have h1 := heap_alloc_new (w4.alloc (.cells #[.int .u8 1] 5)) (.cells #[.slice (some ⟨w4.heap.size, 0, none⟩) 1 1, .slice ac (digs 9 l.c).length cc, .slice ad rw3.length cd] 41)
        have e : (w4.alloc (.cells #[.int .u8 1] 5)).heap.size = w4.heap.size + 1 := by simp
        rw [e] at h1
        refine ⟨rfl, fun i hi => ?_, fun i hi => ?_⟩
        · match i, hi with
          | 0, _ => exact blk_cell h1 rfl
          | 1, _ => exact blk_cell h1 rfl
          | 2, _ => exact blk_cell h1 rfl
        · match i, hi with
          | 0, _ => exact (one_bsl w4 1 (by decide)).move (keep_alloc _ _)
          | 1, _ => exact HV4.out.move (keep_below hb6)
          | 2, _ => exact HD4.out.move (keep_below hb6)
      have HB6 : Hid (Below w.heap.size w ((w4.alloc (.cells #[.int .u8 1] 5)).alloc (.cells #[.slice (some ⟨w4.heap.size, 0, none⟩) 1 1, .slice ac (digs 9 l.c).length cc, .slice ad rw3.length cd] 41))) := HB4.out.trans (hb6.mono HB4.out.size)
      have HF3 : Hid (fla [[1], digs 9 l.c, rw3] 3 = lbytes l) := by show _ = _; rw [HBY.out]; unfold fla; simp
      have HN3 : Hid (fln [[1], digs 9 l.c, rw3] 3 = (lbytes l).length) := by show _ = _; rw [← fla_len, HF3.out]
      have HLN : Hid (0 < (lbytes l).length ∧ (lbytes l).length ≤ 1000) := by
        have h1 := lbytes_len HLK.out
        show _ ∧ _
        rw [HBY.out] at h1 ⊢
        refine ⟨by simp, by omega⟩
      clear hb5 hb6 HV4 HD4 HB4
      go_wp2_with fail
      generalize (w4.alloc (.cells #[.int .u8 1] 5)).alloc (.cells #[.slice (some ⟨w4.heap.size, 0, none⟩) 1 1, .slice ac (digs 9 l.c).length cc, .slice ad rw3.length cd] 41) = w6 at *
      refine (concat_any w6 (w4.heap.size + 1) 3 _ _ HRW.out rfl (by decide) (by rw [HN3.out]; exact HLN.out.1) (by rw [HN3.out]; exact HLN.out.2)).mono ?_
      rintro e w7 ⟨v7, rfl, ho7, hb7⟩
      rw [HF3.out, HN3.out] at ho7
      have HO7 := hide (own_mono4 ho7 HB6.out.size)
      have HB7 : Hid (Below w.heap.size w w7) := HB6.out.trans (hb7.mono HB6.out.size)
      obtain ⟨a7, c7, hv7, _⟩ := own_form ho7
      subst hv7
      clear ho7 hb7 HRW HB6
      go_wp2_with fail
      go_ret2
      exact ⟨_, rfl, HO7.out, HB7.out⟩
  · have HLR : Hid (lrow l = []) := by show _ = _; unfold lrow; rw [if_neg hlk]
    rw [if_neg hlk, HLR.out]
    have HLK := hide hlk
    clear hlk
    go_enter Tryz.func41, Tryz.ntmps41
    go_wp2_with fail
    generalize w.alloc (.cells #[.int .i64 l.v, .int .u64 (l.c : Nat), .int .u64 (l.h : Nat), .string (nstr l.d)] 38) = w0 at *
    refine (check_any w0 l HL.out).mono ?_
    rintro e w1 ⟨rfl, hb1⟩
    rw [if_neg HLK.out]
    have HB1 : Hid (Below w.heap.size w w1) := HB.out.trans (hb1.mono HB.out.size)
    clear hb1
    go_wp2_with fail
    go_ret2
    exact ⟨_, rfl, ⟨rfl, .inl ⟨rfl, rfl⟩⟩, HB1.out⟩
end
section
open Go.RowKit Go
theorem BSl.entry {w : World} {v : Value} {xs : List Nat} (h : BSl w v xs) : (Extern.Bytes.bytesOf v).run Tryz.prog w = .ok (nstr xs) w := by
  obtain ⟨⟨a, cap, rfl, _, hc⟩, _, _⟩ := h
  rcases hc with rfl | ⟨b, off, rfl, hc⟩
  · cases a with
    | none => rfl
    | some a => rfl
  · have hl := Lib.run_loadBytesX (P := Tryz.prog) w (xs.map fun x => ((x : Nat) : Int)) ⟨b, off, none⟩ .empty (fun j x hj => by
      have hjl : j < xs.length := by
        have := (List.getElem?_eq_some_iff.1 hj).1
        simpa using this
      have e : (⟨b, off, none⟩ : Addr).add j = ⟨b, off + j, none⟩ := by unfold Addr.add; split <;> simp_all
      rw [e, hc j hjl]
      simp [hjl] at hj
      simp [List.getD, hjl, hj])
    rw [List.length_map] at hl
    show (Extern.Bytes.loadBytes _ _ _).run Tryz.prog w = _
    rw [hl]
    congr 1
    apply ByteArray.ext
    show (#[] : Array UInt8) ++ _ = _
    simp [nstr, Lib.bytesOf]
    apply Array.ext'
    rw [strOfNums_data]
    simp
theorem cmp_blt : ∀ (la lb : List UInt8), (∀ r, la ++ r = lb → r = []) → decide (Lib.compareBytes la lb < 0) = blt (la.map UInt8.toNat) (lb.map UInt8.toNat)
  | [], [], _ => rfl
  | [], y :: lb, h => by
    have := h (y :: lb) rfl
    cases this
  | _ :: _, [], _ => rfl
  | x :: la, y :: lb, h => by
    have ih := cmp_blt la lb
    unfold Lib.compareBytes
    simp only [List.map_cons, blt]
    by_cases hxy : x = y
    · subst hxy
      have hlt : ¬ x < x := UInt8.lt_irrefl x
      rw [if_neg hlt, if_neg hlt, if_pos rfl]
      exact ih (fun r hr => h r (by rw [List.cons_append, hr]))
    · have hne : x.toNat ≠ y.toNat := fun e => hxy (UInt8.toNat_inj.1 e)
      rw [if_neg hne]
      by_cases hl : x < y
      · rw [if_pos hl]
        have : x.toNat < y.toNat := UInt8.lt_iff_toNat_lt.1 hl
        simp [this]
      · rw [if_neg hl]
        have h2 : ¬ x.toNat < y.toNat := fun e => hl (UInt8.lt_iff_toNat_lt.2 e)
        have h3 : y < x := UInt8.lt_iff_toNat_lt.2 (by omega)
        rw [if_pos h3]
        simp [h2]
theorem nstr_list {xs : List Nat} (h : ∀ x ∈ xs, x < 256) : (nstr xs).data.toList.map UInt8.toNat = xs := sl_nstr h
theorem cmp_lbytes {a b : Lk} (ha : lok a) (hb : lok b) (had : ∀ x ∈ a.d, x < 256) (hbd : ∀ x ∈ b.d, x < 256) : decide (Lib.compareBytes (nstr (lbytes a)).data.toList (nstr (lbytes b)).data.toList < 0) = blt (lbytes a) (lbytes b) := by
  have h1 := nstr_list (lbytes_byte ha had)
  have h2 := nstr_list (lbytes_byte hb hbd)
  rw [cmp_blt, h1, h2]
  intro r hr
  have h3 := congrArg (List.map UInt8.toNat) hr
  rw [List.map_append, h1, h2] at h3
  have := (lbytes_free ha hb h3).2
  simpa using this
set_option maxRecDepth 1000000 in
set_option maxHeartbeats 1000000 in
theorem compare_any (w : World) (v u : Value) (xs ys : List Nat) (h1 : BSl w v xs) (h2 : BSl w u ys) :
    Calls Tryz.prog 42 #[v, u] w fun e w' => e = .returned (.int .i64 (Lib.compareBytes (nstr xs).data.toList (nstr ys).data.toList)) ∧ w' = w := by
  have hc : (Extern.BytealgCompare.compare #[v, u]).run Tryz.prog w = .ok (.int .i64 (Lib.compareBytes (nstr xs).data.toList (nstr ys).data.toList)) w := by
    change Sem.run Tryz.prog (do pure (goInt (Extern.BytealgCompare.cmp (← Extern.Bytes.bytesOf v) (← Extern.Bytes.bytesOf u)))) w = _
    simp only [Sem.run_bind, h1.entry, h2.entry, Sem.run_pure, Result.andThen]
    rw [Lib.cmp_eq]
    rfl
  have HC := hide hc
  clear hc h1 h2
  go_enter Tryz.func42, Tryz.ntmps42
  go_wp2_with fail
  rw [run_callFunc_extern Tryz.func67 (by kernel_rfl) (by kernel_rfl) (by kernel_rfl) (e := Extern.BytealgCompare.compare) (by kernel_rfl), HC.out]
  simp only [Result.andThen]
  rw [Oper.upon_value]
  go_wp2_with fail
  go_ret
  exact ⟨rfl, rfl⟩
def llt (a b : Lk) : Bool := decide (lok a) && decide (lok b) && blt (lrow a) (lrow b)
theorem blt_self : ∀ x, blt x x = false
  | [] => rfl
  | x :: r => by rw [blt, if_pos rfl, blt_self r]
set_option maxRecDepth 1000000 in
set_option maxHeartbeats 1000000 in
theorem less4_any (w : World) (a b : Lk) (ha : Lkb a) (hb : Lkb b) :
    Calls Tryz.prog 23 #[lkv a, lkv b] w fun e w' => e = .returned (.bool (llt a b)) ∧ Below w.heap.size w w' := by
  have HA := hide ha
  have HBB := hide hb
  have HE0 : Hid (∀ w, (Op.equalIn 10000 38 (.agg (lcs a)) (.agg (lcs b))).run Tryz.prog w = .ok (decide (a = b)) w) := fun w => eqlk w ha.d hb.d
  have HT : Hid (((w.alloc (.cells (lcs a) 38)).alloc (.cells (lcs b) 38)).heap[w.heap.size]? = some (.cells (lcs a) 38 (0, 0))) := blk_alloc _ (heap_alloc_new w _)
  have HU : Hid (((w.alloc (.cells (lcs a) 38)).alloc (.cells (lcs b) 38)).heap[w.heap.size + 1]? = some (.cells (lcs b) 38 (0, 0))) := alloc2_new w _ _
  have HB : Hid (Below w.heap.size w ((w.alloc (.cells (lcs a) 38)).alloc (.cells (lcs b) 38))) := (below_alloc4 w _).trans ((below_alloc4 _ _).mono (by simp))
  unfold lcs at HT HU HB
  simp only [lkv]
  clear ha hb
  generalize hR : llt a b = R
  have HR := hide hR
  clear hR
  by_cases hab : a = b
  · have HE1 : Hid (∀ w, (Op.equalIn 10000 38 (.agg (lcs a)) (.agg (lcs b))).run Tryz.prog w = .ok true w) := by
      have h := HE0.out
      rw [decide_eq_true hab] at h
      exact h
    have HZ : Hid (R = false) := by
      show _ = _
      rw [← HR.out, hab]
      unfold llt
      rw [blt_self, Bool.and_false]
    clear HR HE0 hab
    go_enter Tryz.func23, Tryz.ntmps23
    go_wp2_with (refine wpList_eqlk rfl rfl (lcs a) (lcs b) true rfl rfl (HE1.out _) ?_)
    go_ret
    exact ⟨by rw [HZ.out]; rfl, HB.out⟩
  · have HE1 : Hid (∀ w, (Op.equalIn 10000 38 (.agg (lcs a)) (.agg (lcs b))).run Tryz.prog w = .ok false w) := by
      have h := HE0.out
      rw [decide_eq_false hab] at h
      exact h
    clear HE0
    go_enter Tryz.func23, Tryz.ntmps23
    go_wp2_with (refine wpList_eqlk rfl rfl (lcs a) (lcs b) false rfl rfl (HE1.out _) ?_)
    clear HE1
    generalize (w.alloc (.cells #[.int .i64 a.v, .int .u64 (a.c : Nat), .int .u64 (a.h : Nat), .string (nstr a.d)] 38)).alloc (.cells #[.int .i64 b.v, .int .u64 (b.c : Nat), .int .u64 (b.h : Nat), .string (nstr b.d)] 38) = w0 at *
    refine (bytes4_any w0 a HA.out).mono ?_
    rintro e w1 ⟨v1, rfl, ho1, hb1⟩
    have HO1 := hide ho1
    have HB1 : Hid (Below w.heap.size w w1) := HB.out.trans (hb1.mono HB.out.size)
    have HU1 : Hid (w1.heap[w.heap.size + 1]? = some (.cells #[.int .i64 b.v, .int .u64 (b.c : Nat), .int .u64 (b.h : Nat), .string (nstr b.d)] 38 (0, 0))) := (hb1.block _ (blk_lt HU.out)).trans HU.out
    obtain ⟨a1, c1, hv1, _⟩ := own_form ho1
    subst hv1
    clear ho1 hb1 HU HT HB
    have q0 : w1.cell? ⟨w.heap.size + 1, 0, none⟩ = some (.int .i64 b.v) := blk_cell HU1.out rfl
    have q1 : w1.cell? ⟨w.heap.size + 1, 1, none⟩ = some (.int .u64 (b.c : Nat)) := blk_cell HU1.out rfl
    have q2 : w1.cell? ⟨w.heap.size + 1, 2, none⟩ = some (.int .u64 (b.h : Nat)) := blk_cell HU1.out rfl
    have q3 : w1.cell? ⟨w.heap.size + 1, 3, none⟩ = some (.string (nstr b.d)) := blk_cell HU1.out rfl
    by_cases hla : lok a
    · rw [if_pos hla]
      have HLA := hide hla
      clear hla
      go_wp2_with fail
      refine (bytes4_any w1 b HBB.out).mono ?_
      rintro e w2 ⟨v2, rfl, ho2, hb2⟩
      have HV1 := hide ((BSl.own HO1.out (lrow_byte HA.out.d)).move (keep_below hb2))
      have HV2 := hide (BSl.own ho2 (lrow_byte HBB.out.d))
      have HB2 : Hid (Below w.heap.size w w2) := HB1.out.trans (hb2.mono HB1.out.size)
      obtain ⟨a2, c2, hv2, _⟩ := own_form ho2
      subst hv2
      clear ho2 hb2 HO1 HB1 q0 q1 q2 q3 HU1
      by_cases hlb : lok b
      · as_aux_lemma =>
        rw [if_pos hlb]
        have HZ : Hid (R = decide (Lib.compareBytes (nstr (lrow a)).data.toList (nstr (lrow b)).data.toList < 0)) := by
          show _ = _
          rw [← HR.out]
          unfold llt lrow
          rw [decide_eq_true HLA.out, decide_eq_true hlb, if_pos HLA.out, if_pos hlb, cmp_lbytes HLA.out hlb HA.out.d HBB.out.d]
          rfl
        clear HR hlb
        go_wp2_with fail
        refine (compare_any w2 _ _ _ _ HV1.out HV2.out).mono ?_
        rintro e w3 ⟨rfl, rfl⟩
        generalize Lib.compareBytes (nstr (lrow a)).data.toList (nstr (lrow b)).data.toList = cc at *
        go_wp2_with fail
        go_ret
        exact ⟨by rw [HZ.out]; rfl, HB2.out⟩
      · as_aux_lemma =>
        rw [if_neg hlb]
        have HZ : Hid (R = false) := by
          show _ = _
          rw [← HR.out]
          unfold llt
          rw [decide_eq_false hlb, Bool.and_false, Bool.false_and]
        clear HR hlb
        go_wp2_with fail
        go_ret
        exact ⟨by rw [HZ.out]; rfl, HB2.out⟩
    · as_aux_lemma =>
      rw [if_neg hla]
      have HZ : Hid (R = false) := by
        show _ = _
        rw [← HR.out]
        unfold llt
        rw [decide_eq_false hla, Bool.false_and, Bool.false_and]
      clear HR hla
      go_wp2_with fail
      go_ret
      exact ⟨by rw [HZ.out]; rfl, HB1.out⟩
end
section
open Go.ChangeShapes Go.WideShapes Go.ChangeAt Go.RowKit Go.Deep
theorem Tryz.own : ownKnob Tryz.prog.godebug = none := by kernel_rfl

theorem Tryz.laidOut : laidOutB Tryz.prog = true := by kernel_rfl
end
section
open Go.ChangeShapes Go.WideShapes Go.ChangeAt Go.RowKit Go.Deep Go.Joins

end
section
open Go.ChangeShapes Go.WideShapes Go.ChangeAt Go.RowKit Go.Deep Go.Joins Go
section
variable {H : Type} {enc : TypeId × Value → H} {P : Program} {w : World} {base : Nat} {spare : Nat → Bool} {held : Bool}
end
end
section
open Go.RowKit Go

end
section
open Go.RowKit Go
def plt (t : List Nat) : Nat → List Nat
  | 0 => List.replicate 256 0
  | k + 1 => (plt t k).set (t.getD k 0) (k + 1)
end
section
open Go.RowKit Go
def tells (t : List Nat) : Prop := ∀ c, c < 256 → (plt t t.length).getD c 0 = (match look t c with | some i => i + 1 | none => 0)
end
section
open Go.RowKit Go

end
section
open Go.RowKit Go

end
section
open Go.RowKit Go

end
section
open Go.RowKit Go

end
section
open Go.RowKit Go

end
section
open Go.RowKit Go

end
section
open Go.RowKit Go

end
section
open Go.RowKit Go

end
section
open Go.RowKit Go

end
end Go.Proofs.YtnbbnainmifenaaGreatDoor
