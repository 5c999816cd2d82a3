import Derived.Test.YtedgdnoafajhoaaDoorBka
import Derived.Deep.QuietTactic
import Derived.BigQuiet
namespace Go.Proofs.YtedgdnoafajhoaaDoor
open Go.RowKit

/-- A list that is kept: its value, its length, its mark. -/
structure Ent where
  val : Value
  n : Nat
  m : Nat

/-- The book: its block, the row of lists, the row of marks' numbers, each list written full of its mark. -/
structure BookOk (w : World) (base B : Nat) (vb vo : Value) (es : List Ent) (a t d u : Nat) : Prop where
  blk : BkBlk w B vb vo a t d u
  hb : w.ownsRow base 27 1 vb es.length (es.map (·.val))
  ho : w.ownsRow base 3 1 vo es.length (es.map fun e => .int .i64 ((e.m : Nat) : Int))
  he : ∀ e ∈ es, w.ownsRow base 5 1 e.val e.n (bv (mkl e.m e.n))
  hs : ∀ e ∈ es, ∀ e' ∈ es, ∀ k, e.val.ownBlock = some k → e'.val.ownBlock = some k → e.m = e'.m
  hbase : base ≤ B
  hm : ∀ e ∈ es, e.m ≤ t ∧ e.n < 68719477000
  ht : t < 68719476736
  hu : u ≤ 16777216
  count : ∃ c r, a = 10 * c ∧ es.length = 10 * c + r ∧ 1200 * (c + r) ≤ u
  hg : ∀ i j ei ej, es[i]? = some ei → es[j]? = some ej → a ≤ j → i ≠ j → ∀ k, ei.val.ownBlock = some k → ej.val.ownBlock ≠ some k
  hn : ∀ (j : Nat) (ej : Ent), es[j]? = some ej → a ≤ j → ej.n < 68719476736

/-- The same without what is said of the lists that have not been grown yet. -/
structure BookC (w : World) (base B : Nat) (vb vo : Value) (es : List Ent) (a t d u : Nat) : Prop where
  blk : BkBlk w B vb vo a t d u
  hb : w.ownsRow base 27 1 vb es.length (es.map (·.val))
  ho : w.ownsRow base 3 1 vo es.length (es.map fun e => .int .i64 ((e.m : Nat) : Int))
  he : ∀ e ∈ es, w.ownsRow base 5 1 e.val e.n (bv (mkl e.m e.n))
  hs : ∀ e ∈ es, ∀ e' ∈ es, ∀ k, e.val.ownBlock = some k → e'.val.ownBlock = some k → e.m = e'.m
  hbase : base ≤ B
  hm : ∀ e ∈ es, e.m ≤ t ∧ e.n < 68719477000
  ht : t < 68719476736
  hu : u ≤ 16777216
theorem BookOk.core {w : World} {base B : Nat} {vb vo : Value} {es : List Ent} {a t d u : Nat} (h : BookOk w base B vb vo es a t d u) : BookC w base B vb vo es a t d u := ⟨h.blk, h.hb, h.ho, h.he, h.hs, h.hbase, h.hm, h.ht, h.hu⟩

theorem BookOk.kp {S : Nat → Prop} {w w' : World} {base B : Nat} {vb vo : Value} {es : List Ent} {a t d u : Nat} (h : BookOk w base B vb vo es a t d u) (hk : Kp S w w')
    (h1 : ¬ S B) (h2 : ∀ k, vb.ownBlock = some k → ¬ S k) (h3 : ∀ k, vo.ownBlock = some k → ¬ S k) (h4 : ∀ e ∈ es, ∀ k, e.val.ownBlock = some k → ¬ S k) : BookOk w' base B vb vo es a t d u :=
  ⟨h.blk.kp hk h1, hk.owns h.hb h2, hk.owns h.ho h3, fun e he => hk.owns (h.he e he) (h4 e he), h.hs, h.hbase, h.hm, h.ht, h.hu, h.count, h.hg, h.hn⟩

theorem BookC.kp {S : Nat → Prop} {w w' : World} {base B : Nat} {vb vo : Value} {es : List Ent} {a t d u : Nat} (h : BookC w base B vb vo es a t d u) (hk : Kp S w w')
    (h1 : ¬ S B) (h2 : ∀ k, vb.ownBlock = some k → ¬ S k) (h3 : ∀ k, vo.ownBlock = some k → ¬ S k) (h4 : ∀ e ∈ es, ∀ k, e.val.ownBlock = some k → ¬ S k) : BookC w' base B vb vo es a t d u :=
  ⟨h.blk.kp hk h1, hk.owns h.hb h2, hk.owns h.ho h3, fun e he => hk.owns (h.he e he) (h4 e he), h.hs, h.hbase, h.hm, h.ht, h.hu⟩

theorem own_form {w : World} {base : Nat} {e : TypeId} {v : Value} {n : Nat} {xs : List Value} (h : w.ownsRow base e 1 v n xs) : ∃ a cap, v = .slice a n cap ∧ n ≤ cap ∧ n ≤ 9223372036854775807 ∧ ∀ j u, xs[j]? = some u → ∃ g, a = some ⟨g, 0, none⟩ ∧ w.cell? ⟨g, j, none⟩ = some u := by
  have hlen : xs.length = n := by have := h.1; omega
  rcases h.2 with ⟨rfl, h0⟩ | ⟨g, cap, cur, rfl, _, hg, h1, h2, h3, h4⟩
  · refine ⟨none, 0, by rw [h0], by omega, by omega, fun j u hu => ?_⟩
    have : xs = [] := List.length_eq_zero_iff.1 (by omega)
    rw [this] at hu
    simp at hu
  · refine ⟨some ⟨g, 0, none⟩, cap, rfl, h1, by unfold maxLen at h2; omega, fun j u hu => ⟨g, rfl, ?_⟩⟩
    have := h.cells (g := g) rfl j u hu
    have hadd : (⟨g, 0, none⟩ : Addr).add j = ⟨g, j, none⟩ := by unfold Addr.add; split <;> simp_all
    rw [hadd] at this
    exact this

set_option maxRecDepth 1000000 in
set_option maxHeartbeats 400000 in
theorem plain_any {w : World} {base B : Nat} {vb vo : Value} {es : List Ent} {a t d u : Nat} (h : BookOk w base B vb vo es a t d u) :
    Calls Tryd.prog 65 #[.pointer (some ⟨B, 0, none⟩)] w fun e w' => e = .returned (.bool true) ∧ Kp (fun _ => False) w w' := by
  obtain ⟨ab, capb, rfl, hcb, hxb, hcellb⟩ := own_form h.hb
  obtain ⟨ao, capo, rfl, hco, hxo, hcello⟩ := own_form h.ho
  have HCB := hide hcellb
  have HCO := hide hcello
  have HH := hide h
  clear hcellb hcello h
  go_enter Tryd.func65, Tryd.ntmps65
  go_wp2
  go_loopw [3] (fun i wr => ∃ k : Nat, k ≤ es.length ∧ i = .int .i64 k ∧ Kp (fun _ => False) w wr) (fun i _ => es.length - (intOf i).toNat)
  case atStart => exact ⟨0, Nat.zero_le _, rfl, Kp.refl _ _⟩
  case round =>
    obtain ⟨k, hk, rfl, hkp⟩ := hrel
    have HK := hide hkp
    clear hkp
    have c0 : wr.cell? ⟨B, 0, none⟩ = some (.slice ab es.length capb) := HK.out.cell (HH.out.blk.cell 0 _ rfl) (by simp)
    have c3 : wr.cell? ⟨B, 3, none⟩ = some (.slice none 0 0) := HK.out.cell (HH.out.blk.cell 3 _ rfl) (by simp)
    by_cases hlt : k < es.length
    · have hlt' : (k : Int) < (es.length : Int) := by omega
      have hmem : es[k] ∈ es := List.getElem_mem hlt
      obtain ⟨gb, hab, hcb1⟩ := HCB.out k es[k].val (by simp [hlt])
      obtain ⟨go, hao, hco1⟩ := HCO.out k (.int .i64 ((es[k].m : Nat) : Int)) (by simp [hlt])
      have hown := HH.out.he _ hmem
      have hmm := HH.out.hm _ hmem
      have htt := HH.out.ht
      obtain ⟨av, capv, hval, _, hnv, hcv⟩ := own_form hown
      have HCV := hide hcv
      generalize es[k] = e at *
      obtain ⟨ev, en, em⟩ := e
      simp only at hval hcb1 hco1 hmm hnv HCV
      subst hval
      subst hab
      subst hao
      clear hown hcv hmem
      have HCB1 := hide hcb1
      have HCO1 := hide hco1
      have cb1 := HK.out.cell hcb1 (by simp)
      clear hcb1 hco1
      obtain ⟨wo, rfl⟩ : ∃ x, wr = x := ⟨wr, rfl⟩
      go_wp2
      go_loopw [4] (fun j wr' => ∃ q : Nat, q ≤ en ∧ j = .int .i64 q ∧ Kp (fun _ => False) w wr') (fun j _ => en - (intOf j).toNat)
      case atStart => exact ⟨0, Nat.zero_le _, rfl, HK.out⟩
      case round =>
        obtain ⟨q, hq, rfl, hkp2⟩ := hrel
        have HK2 := hide hkp2
        clear hkp2 c0 c3 cb1
        have c0 : wr.cell? ⟨B, 0, none⟩ = some (.slice (some ⟨gb, 0, none⟩) es.length capb) := HK2.out.cell (HH.out.blk.cell 0 _ rfl) (by simp)
        have c1 : wr.cell? ⟨B, 1, none⟩ = some (.slice (some ⟨go, 0, none⟩) es.length capo) := HK2.out.cell (HH.out.blk.cell 1 _ rfl) (by simp)
        have cb1 := HK2.out.cell HCB1.out (by simp)
        have co1 := HK2.out.cell HCO1.out (by simp)
        by_cases hql : q < en
        · have hql' : (q : Int) < (en : Int) := by omega
          obtain ⟨gv, hav, hcv1⟩ := HCV.out q (.int .u8 ((atv em q : Nat) : Int)) (by rw [bv_get (by rw [mkl_len]; exact hql), mkl_get _ _ _ hql])
          subst hav
          have cv1 := HK2.out.cell hcv1 (by simp)
          clear hcv1
          have HAT : Hid (∀ W, Calls Tryd.prog 63 #[.int .i64 (em : Int), .int .i64 (q : Int)] W fun e w' => e = .returned (.int .u8 ((atv em q : Nat) : Int)) ∧ w' = W) := fun W => by
            have := at_any (em : Int) (q : Int) W (by omega) (by omega) (by omega) (by omega)
            rw [Int.toNat_natCast, Int.toNat_natCast] at this
            exact this
          generalize atv em q = x at *
          go_wp2
          go_quiet ((go_at_call 63; exact Calls.quiet_of_same (HAT.out _)))
          go_wp2
          go_roundw
          case rel => exact ⟨q + 1, by omega, by go_num, HK2.out.drewN _⟩
          case measure => simp [intOf]; omega
        · have hql' : ¬ (q : Int) < (en : Int) := by omega
          go_wp2
          go_roundw
          case rel => exact ⟨k + 1, by omega, by go_num, HK2.out⟩
          case measure => simp [intOf]; omega
    · have hlt' : ¬ (k : Int) < (es.length : Int) := by omega
      go_wp2
      refine wp_loop_rounds 1 ?_
      rw [rounds_succ]
      go_wp2
      go_ret
      exact ⟨rfl, HK.out⟩
end Go.Proofs.YtedgdnoafajhoaaDoor
