import Derived.Test.YtghjhhcepkpaeaaThereA
import Derived.Deep.RegionLaw
import Derived.Deep.LoopGhost
import Derived.Deep.DeepCutAuto
namespace Go.Proofs.Ytghjhhcepkpaeaa
open Go.RowKit

/-- 'append(l, x...)' at bytes, as one step of a region that draws its order. -/
theorem step_append_bsl {ops : Array Oper} {o : Oper} {a : Act} {w : World} {K : Act → World → Prop} {Q : Exit → Act → World → Prop} {E : Prop} (hgd : o.guard = none) (s x : Operand)
    (ho : o.op = .call { callee := .builtin .append, args := #[s, x], argTypes := #[50, 50] }) (B : Nat) (v : Value) (n : Nat) (ds : List Nat) (hs : a.eval s = v) (hown : w.ownsRow B 5 1 v n (bv ds))
    (u : Value) (xs : List Nat) (hx : a.eval x = u) (hsl : BSl w u xs) (hlen : n + xs.length ≤ 140737488355328) (hbase : B ≤ w.heap.size)
    (hK : ∀ v' w', w'.ownsRow B 5 1 v' (n + xs.length) (bv (ds ++ xs)) → w.grownBy w' v.ownBlock → K (a.put o.dst v') w') :
    if Region.wanted o (yielded ops a.tmps) = true then Oper.wp Try.prog o a w K Q else E := by
  have hw : Region.wanted o (yielded ops a.tmps) = true := by simp [Region.wanted, hgd]
  rw [if_pos hw]
  obtain ⟨i5, hi, hz0, hz1, hz2⟩ := info5_ex
  obtain ⟨⟨ad, cap, rfl, hn, hc⟩, hmax, hb⟩ := id hsl
  cases ad with
  | none =>
    rcases hc with rfl | ⟨_, _, e, _⟩
    · have := hn.2 rfl
      subst this
      have hrun := run_append_owned_none (P := Try.prog) (w := w) B 50 o.type 5 i5 1 Try.underlying50 hi v n (bv ds) hown
      unfold Oper.wp
      simp only [List.length_nil] at hx
      simp [execOp, ho, resolve, invoke, builtin, hs, hx, hrun, Result.andThen]
      exact hK v w (by simpa using hown) ⟨rfl, rfl, rfl, Nat.le_refl _, fun _ _ _ => rfl⟩
    · cases e
  | some ad =>
    obtain ⟨v', w', hrun, r1, r2, _⟩ := run_append_own (P := Try.prog) w B 50 o.type 5 i5 (.int .u8 0) 1 1 Try.underlying50 hi hz0 hz1 hz2 rfl (by decide) v n (bv ds) hown ad xs.length cap (bv xs) (by simp [bv]) hsl.src.2 (bv_one xs) (by unfold maxLen; omega) (by omega) hbase
    unfold Oper.wp
    simp [execOp, ho, resolve, invoke, builtin, hs, hx, hrun, Result.andThen]
    exact hK v' w' (by rw [bv_app]; exact r1) r2

theorem pow_int (k : Nat) : (2 : Int) ^ (7 * k) = ((128 ^ k : Nat) : Int) := by rw [← pow7, Int.natCast_pow]; rfl
theorem shift_none (n : Int) (k : Nat) (h0 : 0 ≤ n) (h : n.toNat < 128 ^ k) : n / 2 ^ (7 * k) = 0 := by
  rw [pow_int]
  exact Int.ediv_eq_zero_of_lt h0 (by omega)
theorem shift_some (n : Int) (k : Nat) (h0 : 0 ≤ n) (h : 128 ^ k ≤ n.toNat) : (n / 2 ^ (7 * k) == 0) = false := by
  rw [pow_int]
  have hp : 0 < 128 ^ k := Nat.pow_pos (by decide)
  have h1 : (1 : Int) ≤ n / ((128 ^ k : Nat) : Int) := by
    rw [Int.le_ediv_iff_mul_le (by omega)]
    omega
  exact beq_eq_false_iff_ne.2 (by omega)
theorem own_empty (w : World) : ((w.alloc (.cells #[] 5)).drew).ownsRow w.heap.size 5 1 (.slice (some ⟨w.heap.size, 0, none⟩) 0 0) 0 (bv []) :=
  World.ownsRow_made w #[] 0 (Nat.le_refl _) (by decide) rfl
theorem below_first {w w2 : World} (hg : ((w.alloc (.cells #[] 5)).drew).grownBy w2 (Value.ownBlock (.slice (some ⟨w.heap.size, 0, none⟩) 0 0))) : Below w.heap.size w w2 :=
  ((Below.refl w.heap.size w).alloc (Nat.le_refl _) _).drew.grown hg (by simp) (fun q hq => by simp [Value.ownBlock] at hq; omega)
theorem below_next {w w2 w3 : World} {v : Value} {n : Nat} {xs : List Value} (h : Below w.heap.size w w2) (ho : w2.ownsRow w.heap.size 5 1 v n xs) (hg : w2.grownBy w3 v.ownBlock) : Below w.heap.size w w3 :=
  h.grown hg h.size (fun q hq => (ho.lt q hq).1)

set_option maxRecDepth 1000000 in
set_option maxHeartbeats 400000 in
theorem there_any (b off len cap : Nat) (zs : List Int) (vt : Value) (tl : List Nat) (w : World) (hmax : len ≤ 9223372036854775807)
    (hc : ∀ j, j < len → w.cell? ⟨b, off + j, none⟩ = some (.int .u64 (zs.getD j 0)))
    (hr : ∀ j, 0 ≤ zs.getD j 0 ∧ zs.getD j 0 < 18446744073709551616) (ht : BSl w vt tl) :
    Calls Try.prog 4 #[.agg #[.slice (some ⟨b, off, none⟩) len cap, vt]] w fun e w' => e = .returned (.bool true) ∧ Below w.heap.size w w' := by
  have HC := hide hc
  have HRG := hide hr
  have HT := hide ht
  clear hc hr ht
  go_enter Try.func4, Try.ntmps4
  go_wp2
  go_loopg [3] len (fun g i wr => ∃ k : Nat, k + g = len ∧ i = .int .i64 k ∧ Below (w.heap.size + 1) (w.alloc (.cells #[.slice (some ⟨b, off, none⟩) len cap, vt] 66)) wr)
  case atStart => exact ⟨0, by omega, rfl, Below.refl _ _⟩
  case round =>
    obtain ⟨k, hk, rfl, hbel⟩ := hrel
    have HK := hide hk
    clear hk
    have HBL := hide hbel
    have hbx0 : wr.cell? ⟨w.heap.size, 0, none⟩ = some (.slice (some ⟨b, off, none⟩) len cap) := (hbel.cell (by simp)).trans (by simp)
    have hbx1 : wr.cell? ⟨w.heap.size, 1, none⟩ = some vt := (hbel.cell (by simp)).trans (by simp)
    have hsz : w.heap.size < wr.heap.size := by have := hbel.size; simp at this; omega
    clear hbel
    generalize hB : w.heap.size = B at *
    have HB := hide hB
    clear hB
    by_cases hlt : k < len
    · have hcell : wr.cell? ⟨b, off + k, none⟩ = some (.int .u64 (zs.getD k 0)) := by
        have h1 := HC.out k hlt
        have h2 := keep_alloc w (.cells #[.slice (some ⟨b, off, none⟩) len cap, vt] 66) _ _ h1
        have h3 := World.block_lt_of_cell? w _ h1
        exact (HBL.out.cell (by have := HB.out; simp at h3 ⊢; omega)).trans h2
      obtain ⟨hn0, hn1⟩ := HRG.out k
      generalize zs.getD k 0 = n at *
      by_cases hbig : 9223372036854775808 ≤ n
      · have hq : (n / 9223372036854775808 == 1) = true := beq_iff_eq.2 (by omega)
        have hgk : 0 < gk := by have := HK.out; omega
        clear hn1
        go_wp2_with fail
        refine (lay_no n _ hbig).mono ?_
        rintro e w1 ⟨rfl, rfl⟩
        go_wp2_with fail
        refine (num_any _ _).mono ?_
        rintro e w1 ⟨rfl, rfl⟩
        go_wp2_with fail
        refine (len_no n _ hbig).mono ?_
        rintro e w1 ⟨rfl, rfl⟩
        go_wp2_with fail
        go_roundg (gk - 1)
        case measure => omega
        case rel => exact ⟨k + 1, by have := HK.out; omega, by go_num, HBL.out⟩
      · have hsmall : n < 9223372036854775808 := by omega
        clear hbig hn1
        go_wp2_with fail
        refine (lay_any n _ hn0 hsmall).mono ?_
        rintro e w1 ⟨vx, rfl, hown1, hbel1⟩
        have hsl1 := BSl.own hown1 (digs_byte 9 _)
        have hbx1' : w1.cell? ⟨B, 1, none⟩ = some vt := keep_below hbel1 _ _ hbx1
        have hbx0' : w1.cell? ⟨B, 0, none⟩ = some (.slice (some ⟨b, off, none⟩) len cap) := keep_below hbel1 _ _ hbx0
        have hsz' : B < w1.heap.size := by have := hbel1.size; omega
        have HT1 : Hid (BSl w1 vt tl) := by
          refine BSl.move (BSl.move HT.out (keep_alloc w (.cells #[.slice (some ⟨b, off, none⟩) len cap, vt] 66))) (fun a u h => keep_below hbel1 _ _ ?_)
          have h3 := World.block_lt_of_cell? _ a h
          exact (HBL.out.cell (by have := HB.out; simp at h3; omega)).trans h
        have HBL1 := hide ((HBL.out.trans (hbel1.mono (by omega))))
        clear hbx0 hbx1 hsz hcell
        have HSL1 := hide hsl1
        have HO1 := hide hown1
        clear hsl1 hown1 hbel1
        go_wp2
        go_cut [7] (fun v wx => wx.ownsRow w1.heap.size 5 1 v ((digs 9 n.toNat).length + (tl.take 1048576).length) (bv (digs 9 n.toNat ++ tl.take 1048576)) ∧ Below w1.heap.size w1 wx)
        case first =>
          generalize hD : digs 9 n.toNat = D at *
          have HD := hide hD
          clear hD
          have hDl : Hid (D.length ≤ 9) := by rw [← HD.out]; exact digs_len 9 _
          have HSA : Hid (BSl ((w1.alloc (.cells #[] 5)).drew) vx D) := HSL1.out.move (w' := (w1.alloc (.cells #[] 5)).drew) (keep_alloc w1 _)
          go_region_law (first
            | (refine step_append_bsl rfl (.tmp 44) (.tmp 45) rfl w1.heap.size _ 0 [] rfl (own_empty w1) _ D rfl HSA.out (by have := hDl.out; omega) (by simp) ?_
               intro v2 w2 ho2 hg2
               have hbl2 := below_first hg2
               have hbx2 := keep_below hbl2 _ _ hbx1'
               have HS2 := hide (BSl.move HT1.out (keep_below hbl2))
               have HO2 := hide ho2
               have HBL2 := hide hbl2
               clear ho2 hg2 hbl2)
            | (go_simp; go_at_call 19; refine (head_any _ vt tl HS2.out).mono ?_; rintro e w' ⟨v4, rfl, hslv, rfl⟩; have HSV := hide hslv; clear hslv)
            | (refine step_append_bsl rfl (.tmp 46) (.tmp 49) rfl w1.heap.size _ (0 + D.length) ([] ++ D) rfl HO2.out _ (tl.take 1048576) rfl HSV.out (by have := hDl.out; have := List.length_take_le 1048576 tl; omega) HBL2.out.size ?_
               intro v3 w3 ho3 hg3
               have HBL3 := hide (below_next HBL2.out HO2.out hg3)
               have HO3 := hide ho3
               clear ho3 hg3))
          all_goals
            go_wp2_with fail
            go_meet
            case rel => exact ⟨by have h := HO3.out; rw [List.nil_append, Nat.zero_add] at h; exact h, HBL3.out⟩
        case rest =>
          obtain ⟨hownc, hbelc⟩ := hcut
          have hbx0c := keep_below hbelc _ _ hbx0'
          have hbyt : ∀ x ∈ digs 9 n.toNat ++ tl.take 1048576, x < 256 := by
            intro x hx
            rcases List.mem_append.1 hx with hx | hx
            · exact digs_byte 9 _ x hx
            · exact HT.out.byte x (List.mem_of_mem_take hx)
          have HSC := hide (BSl.own hownc hbyt)
          have HSX := hide (HSL1.out.move (keep_below hbelc))
          have HBLC := hide (HBL1.out.trans (hbelc.mono (by omega)))
          have hrd : rd 0 0 (digs 9 n.toNat ++ tl.take 1048576) = (n.toNat, (digs 9 n.toNat).length, 0) := by
            have h := rd_digs (tl.take 1048576) 9 0 0 n.toNat (by omega) (by omega) (by omega) (.inl rfl)
            simpa using h
          have HRD := hide hrd
          have HLN : Hid (∀ W, Calls Try.prog 9 #[.int .u64 n] W fun e w' => e = .returned (.int .i64 ((digs 9 n.toNat).length : Nat)) ∧ w' = W) := fun W => len_any n W hn0 hsmall
          have HBG := hide (fun W v h => begins_any W v n.toNat h)
          have HHL := hide (digs_holds 9 n.toNat (by omega))
          have HLE := hide (digs_least 9 n.toNat (by omega))
          have HMO : Hid (∀ a, a ≤ n.toNat → (digs 9 a).length ≤ (digs 9 n.toNat).length) := fun a h => digs_mono a n.toNat h (by omega)
          have hD9 := digs_len 9 n.toNat
          have hD1 : 1 ≤ (digs 9 n.toNat).length := digs_pos (f := 8)
          have hnn : ((n.toNat : Nat) : Int) = n := Int.toNat_of_nonneg hn0
          have HNN := hide hnn
          clear hnn hrd hownc hbelc hbyt HO1 HSL1 HBL1 HT1 hbx1' hbx0' hsz'
          generalize digs 9 n.toNat = D at *
          obtain ⟨⟨ax, capx, rfl, hx1, hx2⟩, hx3, hx4⟩ := HSX.out
          clear hx1 hx2 hx3 hx4
          go_wp2_with fail
          refine HSC.out.read.mono ?_
          rintro e w4 ⟨rfl, rfl⟩
          rw [HRD.out]
          simp only [HNN.out]
          go_wp2_with fail
          refine (num_any _ _).mono ?_
          rintro e w5 ⟨rfl, rfl⟩
          go_wp2_with fail
          refine (num_any _ _).mono ?_
          rintro e w5 ⟨rfl, rfl⟩
          go_wp2_with fail
          refine (HLN.out _).mono ?_
          rintro e w5 ⟨rfl, rfl⟩
          go_wp2_with fail
          refine (HBG.out _ _ HSX.out).mono ?_
          rintro e w5 ⟨rfl, rfl⟩
          go_upto_region 13 with fail
          clear HLN HBG HSC HSX HRD
          go_cut [119] (fun c wx => c = .bool false ∧ wx = w5)
          case first =>
            clear HHL HLE
            by_cases hk0 : k = 0
            · have hk0' : ¬ (0 : Int) < (k : Int) := by omega
              clear hk0
              go_wp2_with fail
              go_meet
              case rel => exact ⟨rfl, rfl⟩
            · obtain ⟨k', rfl⟩ : ∃ k', k = k' + 1 := ⟨k - 1, by omega⟩
              have hcell : w5.cell? ⟨b, off + k', none⟩ = some (.int .u64 (zs.getD k' 0)) := by
                have h1 := HC.out k' (by omega)
                have h2 := keep_alloc w (.cells #[.slice (some ⟨b, off, none⟩) len cap, vt] 66) _ _ h1
                have h3 := World.block_lt_of_cell? w _ h1
                exact (HBLC.out.cell (by have := HB.out; simp at h3 ⊢; omega)).trans h2
              obtain ⟨hp0, hp1⟩ := HRG.out k'
              generalize zs.getD k' 0 = p at *
              clear hk0
              by_cases hpb : 9223372036854775808 ≤ p
              · have hpz : (p / 9223372036854775808 == 0) = false := beq_eq_false_iff_ne.2 (by omega)
                clear hpb hp1
                go_wp2_with fail
                go_meet
                case rel => exact ⟨rfl, rfl⟩
              · have hpz : (p / 9223372036854775808 == 0) = true := beq_iff_eq.2 (by omega)
                have hps : p < 9223372036854775808 := by omega
                clear hpb hp1
                by_cases hle : p ≤ n
                · have hml := HMO.out p.toNat (by omega)
                  have HLP : Hid (∀ W, Calls Try.prog 9 #[.int .u64 p] W fun e w' => e = .returned (.int .i64 ((digs 9 p.toNat).length : Nat)) ∧ w' = W) := fun W => len_any p W hp0 hps
                  generalize digs 9 p.toNat = E at *
                  have hml' : ¬ (D.length : Int) < (E.length : Int) := by omega
                  go_wp2_with fail
                  refine (HLP.out _).mono ?_
                  rintro e w6 ⟨rfl, rfl⟩
                  go_wp2_with fail
                  go_meet
                  case rel => exact ⟨by rw [decide_eq_false (by omega)], rfl⟩
                · have hle' : n < p := by omega
                  go_wp2_with fail
                  go_meet
                  case rel => exact ⟨rfl, rfl⟩
          case rest =>
            obtain ⟨rfl, rfl⟩ := hcut
            have hs1 : n / 2 ^ (7 * D.length) = 0 := shift_none n D.length hn0 HHL.out
            have hgk : 0 < gk := by have := HK.out; omega
            by_cases h1 : 1 < D.length
            · have h1' : (1 : Int) < (D.length : Int) := by omega
              have hs2 : (n / 2 ^ (7 * (D.length - 1)) == 0) = false := shift_some n (D.length - 1) hn0 (HLE.out h1)
              go_wp2_with fail
              go_roundg (gk - 1)
              case measure => omega
              case rel => exact ⟨k + 1, by have := HK.out; omega, by go_num, HBLC.out⟩
            · have h1' : ¬ (1 : Int) < (D.length : Int) := by omega
              go_wp2_with fail
              go_roundg (gk - 1)
              case measure => omega
              case rel => exact ⟨k + 1, by have := HK.out; omega, by go_num, HBLC.out⟩
    · have hlt' : ¬ (k : Int) < (len : Int) := by omega
      go_wp2_with fail
      refine (lays_any _).mono ?_
      rintro e w3 ⟨rfl, hbel3⟩
      have HBL3 : Hid (Below B w w3) := by
        have h1 := HBL.out
        have h2 : Below B w wr := (((Below.refl B w).alloc (by have := HB.out; omega) _).trans (h1.mono (by omega)))
        exact h2.trans (hbel3.mono (by omega))
      clear hbel3
      go_wp2
      go_ret
      exact ⟨rfl, by have h := HBL3.out; rw [← HB.out] at h; exact h⟩
end Go.Proofs.Ytghjhhcepkpaeaa
