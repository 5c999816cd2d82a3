import Derived.Test.YtadilnmkjcmnnaaGreatDoorJab
import Derived.Test.YtadilnmkjcmnnaaGreatDoorJs
import Derived.Test.YtadilnmkjcmnnaaGreatDoorJk
import Derived.Test.YtadilnmkjcmnnaaGreatDoorJt
import Derived.Test.YtadilnmkjcmnnaaGreatDoorJu
import Derived.Test.YtadilnmkjcmnnaaGreatDoorJm
import Derived.Test.YtadilnmkjcmnnaaGreatDoorJp
import Derived.Test.YtadilnmkjcmnnaaGreatDoorJi
namespace Go.Proofs.YtadilnmkjcmnnaaGreatDoor
section
open Go.RowKit Go
/-! ### Parts in memory, none of which lies in S -/
structure Vis (w : World) (S : Nat → Prop) (vi : Value) (is : List Tv) : Prop where
  form : ∃ (a : Option Addr) (cap : Nat) (cs : Nat → Array Value), vi = .slice a is.length cap ∧ (is.length ≤ cap ∧ (a = none → cap = 0)) ∧ (∀ i u, is[i]? = some u → Tis w S u (cs i)) ∧ (is = [] ∨ ∃ b off, a = some ⟨b, off, none⟩ ∧ ¬ S b ∧ ∀ i, i < is.length → ∀ j u, (cs i)[j]? = some u → w.cell? ⟨b, off + i * 13 + j, none⟩ = some u)
  max : is.length ≤ 140737488351232
def Pis (w : World) (S : Nat → Prop) : Prt → Value → Prop
  | .null, v => v = .iface 204 (.agg #[])
  | .truth b, v => v = .iface 193 (.bool b)
  | .whole g n, v => v = .iface 195 (.agg #[.bool g, .int .u64 (n : Nat)]) ∧ n < 18446744073709551616
  | .float b, v => v = .iface 196 (.int .u64 (b : Nat)) ∧ b < 18446744073709551616
  | .text s, v => v = .iface 197 (.string s) ∧ s.size ≤ 140737488351232
  | .octets y, v => ∃ vb, v = .iface 198 vb ∧ BSl w vb y ∧ (y ≠ [] → ∀ q, vb.ownBlock = some q → ¬ S q) ∧ y.length ≤ 140737488351232
  | .name y, v => ∃ vb, v = .iface 226 (.agg #[vb]) ∧ BSl w vb y ∧ y ≠ [] ∧ (∀ q, vb.ownBlock = some q → ¬ S q) ∧ y.length ≤ 1000
  | .list is, v => ∃ vi, v = .iface 200 vi ∧ Vis w S vi is
  | .entries ks is, v => ∃ vk vi, v = .iface 202 (.agg #[vk, vi]) ∧ SSl w vk ks ∧ (ks ≠ [] → ∀ q, vk.ownBlock = some q → ¬ S q) ∧ Vis w S vi is
theorem tis_live7 {w w' : World} {S T : Nat → Prop} {u : Tv} {c : Array Value} (h : Tis w S u c) (hk : Kp S w w') (ht : ∀ q, T q → S q ∨ w.heap.size ≤ q) : Tis w' T u c :=
  (h.widen.kp (hk.mono (fun _ _ e => .inl e))).mono ht
theorem Vis.live {w w' : World} {S T : Nat → Prop} {vi : Value} {is : List Tv} (h : Vis w S vi is) (hk : Kp S w w') (ht : ∀ q, T q → S q ∨ w.heap.size ≤ q) : Vis w' T vi is := by
  obtain ⟨⟨a, cap, cs, h1, h2, h3, h4⟩, h5⟩ := h
  refine ⟨⟨a, cap, cs, h1, h2, fun i u hu => tis_live7 (h3 i u hu) hk ht, ?_⟩, h5⟩
  by_cases e0 : is = []
  · exact .inl e0
  rcases h4 with e | ⟨b, off, e1, e2, e3⟩
  · exact .inl e
  · refine .inr ⟨b, off, e1, fun hT => ?_, fun i hi j u hu => hk.cell (e3 i hi j u hu) e2⟩
    rcases ht b hT with e | e
    · exact e2 e
    · have hl : 0 < is.length := List.length_pos_iff.2 e0
      have hz := (h3 0 _ (List.getElem?_eq_getElem hl)).tin.size13
      have hc := e3 0 hl 0 _ (Array.getElem?_eq_getElem (by omega))
      have := cell_lt6 hc
      simp only at this
      omega
theorem Pis.live {w w' : World} {S T : Nat → Prop} {p : Prt} {v : Value} (h : Pis w S p v) (hk : Kp S w w') (ht : ∀ q, T q → S q ∨ w.heap.size ≤ q) : Pis w' T p v := by
  cases p with
  | null => exact h
  | truth b => exact h
  | whole g n => exact h
  | float b => exact h
  | text s => exact h
  | octets y =>
    obtain ⟨vb, h1, h2, h3, h4⟩ := h
    by_cases e0 : y = []
    · refine ⟨vb, h1, ?_, fun e => absurd e0 e, h4⟩
      rw [e0] at h2 ⊢
      exact bsl_nil6 h2
    · refine ⟨vb, h1, hk.bsl h2 (h3 e0), fun _ q hq hT => ?_, h4⟩
      rcases ht q hT with e | e
      · exact h3 e0 q hq e
      · have := own_lt h2 e0 hq
        omega
  | name y =>
    obtain ⟨vb, h1, h2, e0, h3, h4⟩ := h
    refine ⟨vb, h1, hk.bsl h2 h3, e0, fun q hq hT => ?_, h4⟩
    rcases ht q hT with e | e
    · exact h3 q hq e
    · have := own_lt h2 e0 hq
      omega
  | list is =>
    obtain ⟨vi, h1, h2⟩ := h
    exact ⟨vi, h1, h2.live hk ht⟩
  | entries ks is =>
    obtain ⟨vk, vi, h1, h2, h3, h4⟩ := h
    by_cases e0 : ks = []
    · refine ⟨vk, vi, h1, ?_, fun e => absurd e0 e, h4.live hk ht⟩
      rw [e0] at h2 ⊢
      exact ssl_nil6 h2
    · refine ⟨vk, vi, h1, hk.ssl h2 (h3 e0), fun _ q hq hT => ?_, h4.live hk ht⟩
      rcases ht q hT with e | e
      · exact h3 e0 q hq e
      · obtain ⟨⟨a, c, hv, _, hc⟩, _, _⟩ := h2
        obtain ⟨b, off, ha, hcc⟩ := hc.resolve_left e0
        subst hv
        subst ha
        have e3 : b = q := by simpa [Value.ownBlock] using hq
        subst e3
        have hl : 0 < ks.length := List.length_pos_iff.2 e0
        have := cell_lt6 (hcc 0 _ (List.getElem?_eq_getElem hl))
        simp only at this
        omega
theorem own_zero7 (w : World) : (w.alloc (.cells #[.int .u8 0] 5)).ownsRow w.heap.size 5 1 (.slice (some ⟨w.heap.size, 0, none⟩) 1 1) 1 (bv [0]) :=
  ⟨rfl, .inr ⟨w.heap.size, 1, _, rfl, Nat.le_refl _, heap_alloc_new w _, Nat.le_refl _, by decide, rfl, rfl⟩⟩
theorem lrow_len7 (l : Lk) : (lrow l).length ≤ 999 := by
  unfold lrow
  split
  · rename_i h
    have h1 := lbytes_len h
    omega
  · exact Nat.zero_le _
end
section
open Go.RowKit Go
set_option maxRecDepth 1000000 in
set_option maxHeartbeats 1000000 in
/-- slices.Concat. -/
theorem concat7_any (w : World) (g n : Nat) (vs : List Value) (xss : List (List Nat)) (hr : Rws w g vs xss) (hn : vs.length = n) (hn0 : n ≤ 100) (h0 : 0 < fln xss n) (hl : fln xss n ≤ 1000) :
    Calls Tryz.prog 164 #[.slice (some ⟨g, 0, none⟩) n n] w fun e w' => ∃ v, e = .returned v ∧ w'.ownsRow w.heap.size 5 1 v (fln xss n) (bv (fla xss n)) ∧ Below w.heap.size w w' := by
  have HR := hide hr
  have HN := hide hn
  have HL := hide hl
  have H0 := hide h0
  have HX : Hid (xss.length = n) := by have := hr.n; show _ = _; omega
  clear hr hn hl h0
  go_enter Tryz.func164, Tryz.ntmps164
  go_wp2_with fail
  go_loopw [3, 11] (fun ss ii wx => wx = w ∧ ∃ k : Nat, k ≤ n ∧ ii = .int .i64 (k : Nat) ∧ ss = .int .i64 (fln xss k : Nat)) (fun _ ii _ => n - (intOf ii).toNat)
  case atStart => exact ⟨rfl, 0, by omega, rfl, rfl⟩
  case round =>
    obtain ⟨rfl, k, hk, rfl, rfl⟩ := hrel
    by_cases hlt : k < n
    · have g1 : (k : Int) < (n : Int) := by omega
      have q1 := HR.out.c k (by have := HN.out; omega)
      have HB1 := hide (HR.out.b k (by have := HN.out; omega))
      have HF := hide (fln_succ xss k (by have := HX.out; omega))
      have HF2 := hide (fln_le xss (k + 1))
      obtain ⟨⟨a, cap, hv, _⟩, _, _⟩ := HB1.out
      rw [hv] at q1
      have g3 : fln xss k + (xss.getD k []).length ≤ 1000 := by have := HF2.out; rw [HF.out, HX.out] at this; have := HL.out; omega
      have HSU : Hid (fln xss k + (xss.getD k []).length = fln xss (k + 1)) := HF.out.symm
      clear hv HF HF2
      generalize fln xss k = s1 at *
      generalize (xss.getD k []).length = s3 at *
      have g2 : ¬ ((s1 : Int) + (s3 : Int) < 0) := by omega
      go_wp2_with fail
      go_roundw
      case rel => exact ⟨trivial, k + 1, by omega, by go_num, by have := HSU.out; congr 1; omega⟩
      case measure => simp [intOf]; omega
    · have hkn : k = n := by omega
      subst hkn
      have g1 : ¬ (k : Int) < (k : Int) := by omega
      generalize hS : fln xss k = S at *
      have HS := hide hS
      clear hS hlt
      have h1 := H0.out
      have h2 := HL.out
      go_wp2_with fail
      refine (grow_any wr S h1 h2).mono ?_
      rintro e w1 ⟨v1, rfl, ho1, hb1⟩
      have HO1 := hide ho1
      have HB1 := hide hb1
      clear ho1 hb1
      obtain ⟨a1, c1, hv1, _⟩ := own_form HO1.out
      subst hv1
      go_wp2_with fail
      go_loopw [6, 27] (fun vv ii wx => ∃ j : Nat, j ≤ k ∧ ii = .int .i64 (j : Nat) ∧ Hid (wx.ownsRow wr.heap.size 5 1 vv (fln xss j) (bv (fla xss j))) ∧ Hid (Below wr.heap.size wr wx)) (fun _ ii _ => k - (intOf ii).toNat)
      case atStart => exact ⟨0, by omega, rfl, HO1, HB1⟩
      case round => as_aux_lemma =>
        rename World => wz
        obtain ⟨j, hj, rfl, HO, HBq⟩ := hrel
        clear HO1 HB1
        by_cases hjl : j < k
        · have g5 : (j : Int) < (k : Int) := by omega
          have HR2 := hide (HR.out.below HBq.out)
          have q1 := HR2.out.c j (by have := HN.out; omega)
          have HBL := hide (HR2.out.b j (by have := HN.out; omega))
          have HF := hide (fln_succ xss j (by have := HX.out; omega))
          have HFA := hide (fla_succ xss j (by have := HX.out; omega))
          have HF2 : Hid (fln xss (j + 1) ≤ 1000) := by have := fln_le xss (j + 1); rw [HX.out, HS.out] at this; exact Nat.le_trans this HL.out
          obtain ⟨⟨a, cap, hv, _⟩, _, _⟩ := HBL.out
          rw [hv] at q1 HBL
          obtain ⟨a2, c2, hv2, _⟩ := own_form HO.out
          subst hv2
          have HZ : Hid (fln xss j + (xss.getD j []).length ≤ 140737488355328) := by have := HF2.out; rw [HF.out] at this; show _ ≤ _; omega
          clear hv HR2
          go_wp2_with (at_builtin; refine append_bsl rfl _ _ rfl wr.heap.size _ (fln xss j) (fla xss j) rfl HO.out _ (xss.getD j []) rfl HBL.out HZ.out HBq.out.size ?_)
          intro v7 w7 ho7 hg7
          have HB7 : Hid (Below wr.heap.size wr w7) := HBq.out.grown hg7 HBq.out.size (fun g hg => (HO.out.lt g hg).1)
          have HO7 : Hid (w7.ownsRow wr.heap.size 5 1 v7 (fln xss (j + 1)) (bv (fla xss (j + 1)))) := by show World.ownsRow _ _ _ _ _ _ _; rw [HF.out, HFA.out]; exact ho7
          clear ho7 hg7 HO HBq HBL HF HFA HF2 HZ
          go_wp2_with fail
          go_roundw
          case rel => exact ⟨j + 1, by omega, by go_num, HO7, HB7⟩
          case measure => simp [intOf]; omega
        · have hjk : j = k := by omega
          subst hjk
          have g5 : ¬ (j : Int) < (j : Int) := by omega
          have ho := HO.out
          rw [HS.out] at ho
          obtain ⟨a2, c2, hv2, _⟩ := own_form ho
          subst hv2
          have HO2 := hide ho
          clear ho HO
          go_wp2_with fail
          go_ret
          exact ⟨_, rfl, by rw [HS.out]; exact HO2.out, HBq.out⟩
set_option maxRecDepth 1000000 in
set_option maxHeartbeats 1000000 in
theorem bytes7_any (w : World) (l : Lk) (hl : Lkb l) :
    Calls Tryz.prog 136 #[lkv l] w fun e w' => ∃ v', e = .returned (.tuple #[v', .int .i64 (if lok l then 0 else 40)]) ∧ w'.ownsRow w.heap.size 5 1 v' (lrow l).length (bv (lrow l)) ∧ Below w.heap.size w w' := by
  have HL := hide hl
  have HT : Hid ((w.alloc (.cells #[.int .i64 l.v, .int .u64 (l.c : Nat), .int .u64 (l.h : Nat), .string (nstr l.d)] 59)).heap[w.heap.size]? = some (.cells (lcs l) 59 (0, 0))) := heap_alloc_new w _
  have HBq := hide (below_alloc4 w (.cells #[.int .i64 l.v, .int .u64 (l.c : Nat), .int .u64 (l.h : Nat), .string (nstr l.d)] 59))
  simp only [lkv]
  by_cases hlk : lok l
  · have HLR : Hid (lrow l = lbytes l) := by show _ = _; unfold lrow; rw [if_pos hlk]
    rw [if_pos hlk, HLR.out]
    have HLK := hide hlk
    clear hlk hl
    go_enter Tryz.func136, Tryz.ntmps136
    go_wp2_with fail
    generalize w.alloc (.cells #[.int .i64 l.v, .int .u64 (l.c : Nat), .int .u64 (l.h : Nat), .string (nstr l.d)] 59) = w0 at *
    refine (check_any w0 l HL.out).mono ?_
    rintro e w1 ⟨rfl, hb1⟩
    rw [if_pos HLK.out]
    have q0 : w1.heap[w.heap.size]? = some (.cells (lcs l) 59 (0, 0)) := (hb1.block _ (blk_lt HT.out)).trans HT.out
    have HB1 : Hid (Below w.heap.size w w1) := HBq.out.trans (hb1.mono HBq.out.size)
    have c2 : w1.cell? ⟨w.heap.size, 2, none⟩ = some (.int .u64 (l.h : Nat)) := blk_cell q0 rfl
    have c3 : w1.cell? ⟨w.heap.size, 3, none⟩ = some (.string (nstr l.d)) := blk_cell q0 rfl
    have cv := conv_sb w1 (nstr l.d)
    go_wp2_with fail
    have HS1 : Hid (BSl (Lib.bytesWorld w1 5 (nstr l.d)) (.slice (some ⟨w1.heap.size, 0, none⟩) (nstr l.d).size (grownCap w1 (nstr l.d).size 0 5)) l.d) := by
      have h := conv_sb_bsl w1 (nstr l.d) (by rw [HL.out.size]; have := HL.out.n; omega)
      rw [sl_nstr HL.out.d] at h
      exact h
    have HB2 : Hid (Below w.heap.size w (Lib.bytesWorld w1 5 (nstr l.d))) := HB1.out.trans ((conv_sb_below w1 _).mono HB1.out.size)
    have HT2 : Hid ((Lib.bytesWorld w1 5 (nstr l.d)).heap[w.heap.size]? = some (.cells (lcs l) 59 (0, 0))) := (Lib.bytesWorld_at_old w1 5 _ _ (blk_lt q0)).trans q0
    clear cv c2 c3 q0 hb1
    generalize grownCap w1 (nstr l.d).size 0 5 = G at *
    generalize w1.heap.size = gg at *
    generalize Lib.bytesWorld w1 5 (nstr l.d) = w2 at *
    refine (dlay_any w2 l.h _ l.d HL.out.h HS1.out).mono ?_
    rintro e w3 ⟨vd, rfl, ho3, hb3⟩
    have HDL := hide (dlay_ok (lok_okd HLK.out))
    rw [HDL.out] at ho3 ⊢
    have HO3 := hide ho3
    have HB3 : Hid (Below w.heap.size w w3) := HB2.out.trans (hb3.mono HB2.out.size)
    have q3 : w3.heap[w.heap.size]? = some (.cells (lcs l) 59 (0, 0)) := (hb3.block _ (blk_lt HT2.out)).trans HT2.out
    have HWB : Hid (w.heap.size ≤ w2.heap.size) := HB2.out.size
    have c0 : w3.cell? ⟨w.heap.size, 0, none⟩ = some (.int .i64 l.v) := blk_cell q3 rfl
    have c1 : w3.cell? ⟨w.heap.size, 1, none⟩ = some (.int .u64 (l.c : Nat)) := blk_cell q3 rfl
    clear ho3 hb3 q3 HS1 HT2 HB2 HDL
    obtain ⟨ad, cd, hvd, _⟩ := own_form HO3.out
    subst hvd
    have HBYT : Hid (∀ x ∈ l.h :: l.d.length :: l.d, x < 256) := by
      have hk := lok_okd HLK.out
      intro x hx
      unfold okd at hk
      simp only [List.mem_cons] at hx
      rcases hx with e | e | e
      · omega
      · omega
      · exact HL.out.d x e
    have HRL : Hid ((l.h :: l.d.length :: l.d).length ≤ 66) := by
      have hk := lok_okd HLK.out
      unfold okd at hk
      show _ ≤ _
      simp
      omega
    by_cases hv0 : l.v = 0
    · as_aux_lemma =>
      have HBY : Hid (lbytes l = l.h :: l.d.length :: l.d) := by show _ = _; unfold lbytes; rw [if_pos hv0]
      rw [hv0] at c0 ⊢
      generalize l.h :: l.d.length :: l.d = rw3 at *
      go_wp2_with fail
      go_ret2
      exact ⟨_, rfl, by rw [HBY.out]; exact own_mono4 HO3.out HWB.out, HB3.out⟩
    · as_aux_lemma =>
      have hv1 : l.v = 1 := by
        rcases HLK.out with h1 | h1
        · exact absurd h1.1 hv0
        · exact h1.1
      have HC : Hid (l.c < 9223372036854775808) := by
        rcases HLK.out with h1 | h1
        · exact absurd h1.1 hv0
        · exact h1.2.1
      have HBY : Hid (lbytes l = 1 :: digs 9 l.c ++ (l.h :: l.d.length :: l.d)) := by show _ = _; unfold lbytes; rw [if_neg hv0]
      have HDB : Hid (∀ x ∈ digs 9 l.c, x < 256) := fun x hx => lbytes_byte HLK.out HL.out.d x (by rw [HBY.out]; simp [hx])
      rw [hv1] at c0 ⊢
      clear hv0 hv1
      generalize l.h :: l.d.length :: l.d = rw3 at *
      go_wp2_with fail
      refine (vlay_any (l.c : Nat) w3 (by omega) (by have := HC.out; omega)).mono ?_
      rintro e w4 ⟨vc, rfl, ho4, hb4⟩
      rw [Int.toNat_natCast] at ho4
      have HV4 := hide (BSl.own ho4 HDB.out)
      have HD4 := hide (BSl.own (own_below4 HO3.out hb4) HBYT.out)
      have HB4 : Hid (Below w.heap.size w w4) := HB3.out.trans (hb4.mono HB3.out.size)
      obtain ⟨ac, cc, hvc, _⟩ := own_form ho4
      subst hvc
      clear ho4 hb4 HO3 HB3 c0 c1
      have HDN := hide (digs_len 9 l.c)
      have hb5 := below_alloc4 w4 (.cells #[.int .u8 1] 5)
      have hb6 := hb5.trans ((below_alloc4 (w4.alloc (.cells #[.int .u8 1] 5)) (.cells #[.slice (some ⟨w4.heap.size, 0, none⟩) 1 1, .slice ac (digs 9 l.c).length cc, .slice ad rw3.length cd] 46)).mono hb5.size)
      have HRW : Hid (Rws ((w4.alloc (.cells #[.int .u8 1] 5)).alloc (.cells #[.slice (some ⟨w4.heap.size, 0, none⟩) 1 1, .slice ac (digs 9 l.c).length cc, .slice ad rw3.length cd] 46)) (w4.heap.size + 1) [.slice (some ⟨w4.heap.size, 0, none⟩) 1 1, .slice ac (digs 9 l.c).length cc, .slice ad rw3.length cd] [[1], digs 9 l.c, rw3]) := by
        have h1 := heap_alloc_new (w4.alloc (.cells #[.int .u8 1] 5)) (.cells #[.slice (some ⟨w4.heap.size, 0, none⟩) 1 1, .slice ac (digs 9 l.c).length cc, .slice ad rw3.length cd] 46)
        have e : (w4.alloc (.cells #[.int .u8 1] 5)).heap.size = w4.heap.size + 1 := by simp
        rw [e] at h1
        refine ⟨rfl, fun i hi => ?_, fun i hi => ?_⟩
        · match i, hi with
          | 0, _ => exact blk_cell h1 rfl
          | 1, _ => exact blk_cell h1 rfl
          | 2, _ => exact blk_cell h1 rfl
        · match i, hi with
          | 0, _ => exact (one_bsl w4 1 (by decide)).move (keep_alloc _ _)
          | 1, _ => exact HV4.out.move (keep_below hb6)
          | 2, _ => exact HD4.out.move (keep_below hb6)
      have HB6 : Hid (Below w.heap.size w ((w4.alloc (.cells #[.int .u8 1] 5)).alloc (.cells #[.slice (some ⟨w4.heap.size, 0, none⟩) 1 1, .slice ac (digs 9 l.c).length cc, .slice ad rw3.length cd] 46))) := HB4.out.trans (hb6.mono HB4.out.size)
      have HF3 : Hid (fla [[1], digs 9 l.c, rw3] 3 = lbytes l) := by show _ = _; rw [HBY.out]; unfold fla; simp
      have HN3 : Hid (fln [[1], digs 9 l.c, rw3] 3 = (lbytes l).length) := by show _ = _; rw [← fla_len, HF3.out]
      have HLN : Hid (0 < (lbytes l).length ∧ (lbytes l).length ≤ 1000) := by
        have h1 := lbytes_len HLK.out
        show _ ∧ _
        rw [HBY.out] at h1 ⊢
        refine ⟨by simp, by omega⟩
      clear hb5 hb6 HV4 HD4 HB4
      go_wp2_with fail
      generalize (w4.alloc (.cells #[.int .u8 1] 5)).alloc (.cells #[.slice (some ⟨w4.heap.size, 0, none⟩) 1 1, .slice ac (digs 9 l.c).length cc, .slice ad rw3.length cd] 46) = w6 at *
      refine (concat7_any w6 (w4.heap.size + 1) 3 _ _ HRW.out rfl (by decide) (by rw [HN3.out]; exact HLN.out.1) (by rw [HN3.out]; exact HLN.out.2)).mono ?_
      rintro e w7 ⟨v7, rfl, ho7, hb7⟩
      rw [HF3.out, HN3.out] at ho7
      have HO7 := hide (own_mono4 ho7 HB6.out.size)
      have HB7 : Hid (Below w.heap.size w w7) := HB6.out.trans (hb7.mono HB6.out.size)
      obtain ⟨a7, c7, hv7, _⟩ := own_form ho7
      subst hv7
      clear ho7 hb7 HRW HB6
      go_wp2_with fail
      go_ret2
      exact ⟨_, rfl, HO7.out, HB7.out⟩
  · have HLR : Hid (lrow l = []) := by show _ = _; unfold lrow; rw [if_neg hlk]
    rw [if_neg hlk, HLR.out]
    have HLK := hide hlk
    clear hlk
    go_enter Tryz.func136, Tryz.ntmps136
    go_wp2_with fail
    generalize w.alloc (.cells #[.int .i64 l.v, .int .u64 (l.c : Nat), .int .u64 (l.h : Nat), .string (nstr l.d)] 59) = w0 at *
    refine (check_any w0 l HL.out).mono ?_
    rintro e w1 ⟨rfl, hb1⟩
    rw [if_neg HLK.out]
    have HB1 : Hid (Below w.heap.size w w1) := HBq.out.trans (hb1.mono HBq.out.size)
    clear hb1
    go_wp2_with fail
    go_ret2
    exact ⟨_, rfl, ⟨rfl, .inl ⟨rfl, rfl⟩⟩, HB1.out⟩
end
section
open Go.RowKit Go
theorem infoL7 : (Tryz.prog.info? 59).map (·.size) = some 4 := by kernel_rfl
theorem exec_lkAt7 {o : Oper} {a : Act} {p : Operand} {g off : Nat} {cs : Array Value} {w : World} (ho : o.op = .load 59 p) (hp : a.eval p = .pointer (some ⟨g, off, none⟩)) (hn : cs.size = 4) (hc : ∀ j u, cs[j]? = some u → w.cell? ⟨g, off + j, none⟩ = some u) : (execOp a.eval o).run Tryz.prog w = .ok (.value (.agg cs)) w := by
  unfold execOp
  have hr : (Instr.loadAt 59 (.pointer (some ⟨g, off, none⟩))).run Tryz.prog w = .ok (.agg cs) w := by
    have hl := run_loadCells_list (P := Tryz.prog) (w := w) ⟨g, off, none⟩ cs.toList (fun j v hv => by rw [addr_add]; exact hc j v (by simpa using hv))
    have hi := infoL7
    simp only [Instr.loadAt, Instr.sureAddr, Sem.run_bind, Sem.run_pure, Result.andThen]
    cases hq : Tryz.prog.info? 59 with
    | none => simp [hq] at hi
    | some i =>
      have hs : i.size = 4 := by simpa [hq] using hi
      have hn2 : cs.toList.length = 4 := by simpa using hn
      rw [hn2] at hl
      have ha : (isAgg 59).run Tryz.prog w = .ok true w := by
        unfold isAgg
        rw [Sem.run_bind, run_underlying Tryz.underlying59 w]
        simp
      simp [loadVar, ha, sizeOf, typeInfo, hq, hs, hl]
  simp only [ho, Sem.run_bind, hp, hr, Result.andThen_ok]
  rfl
def PartP (w : World) (S : Nat → Prop) (p : Prt) (e : Ending) (w' : World) : Prop := ∃ v, e = .returned v ∧ Below w.heap.size w w' ∧ Pis w' S p v
set_option maxRecDepth 1000000 in
set_option maxHeartbeats 1000000 in
theorem nameOf_any (w : World) (S : Nat → Prop) (hS : ∀ q, S q → q < w.heap.size) (l : Lk) (hl : Lkb l) :
    Calls Tryz.prog 115 #[.agg #[.int .i64 l.v, .int .u64 (l.c : Nat), .int .u64 (l.h : Nat), .string (nstr l.d)]] w (PartP w S (.name (0 :: lrow l))) := by
  have HL := hide hl
  have HSq := hide hS
  have HB0 := hide (below_alloc4 w (.cells #[.int .i64 l.v, .int .u64 (l.c : Nat), .int .u64 (l.h : Nat), .string (nstr l.d)] 59))
  have HG0 := hide (heap_alloc_new w (.cells #[.int .i64 l.v, .int .u64 (l.c : Nat), .int .u64 (l.h : Nat), .string (nstr l.d)] 59))
  clear hl hS
  go_enter Tryz.func115, Tryz.ntmps115
  go_upto_region 1 with fail
  generalize w.alloc (.cells #[.int .i64 l.v, .int .u64 (l.c : Nat), .int .u64 (l.h : Nat), .string (nstr l.d)] 59) = w0 at *
  have HLC : Hid (∀ j u, (#[.int .i64 l.v, .int .u64 (l.c : Nat), .int .u64 (l.h : Nat), .string (nstr l.d)] : Array Value)[j]? = some u → w0.cell? ⟨w.heap.size, 0 + j, none⟩ = some u) := fun j u hu => by rw [Nat.zero_add]; exact blk_cell HG0.out hu
  go_wp2_with (refine wpList_exec rfl (exec_lkAt7 (g := w.heap.size) (off := 0) (cs := #[.int .i64 l.v, .int .u64 (l.c : Nat), .int .u64 (l.h : Nat), .string (nstr l.d)]) rfl rfl rfl HLC.out) ?_)
  refine (bytes7_any w0 l HL.out).mono ?_
  rintro e w1 ⟨v1, rfl, ho1, hb1⟩
  generalize (if lok l then (0 : Int) else 40) = cd
  have HS1 := hide (BSl.own ho1 (lrow_byte HL.out.d))
  have HB1 : Hid (Below w.heap.size w w1) := HB0.out.trans (hb1.mono HB0.out.size)
  obtain ⟨a1, c1, hv1⟩ := own_slice7 ho1
  subst hv1
  have hb2 := below_alloc4 w1 (.cells #[.int .u8 0] 5)
  have HO2 := hide (own_zero7 w1)
  have HS2 := hide (HS1.out.move (keep_below hb2))
  have HB2 : Hid (Below w.heap.size w (w1.alloc (.cells #[.int .u8 0] 5))) := HB1.out.trans (hb2.mono HB1.out.size)
  have HLR := hide (lrow_len7 l)
  generalize hR : lrow l = R at *
  have HRE := hide hR
  have HLB : Hid (1 + R.length ≤ 140737488355328) := by show _ ≤ _; have := HLR.out; omega
  clear ho1 hb1 hb2 hR
  go_wp2_with (at_builtin; refine append_bytes rfl _ _ 198 46 rfl Tryz.underlying198 Tryz.underlying46 w1.heap.size _ 1 [0] rfl HO2.out (fun h => by cases h) _ R rfl HS2.out HLB.out (by simp) ?_)
  intro v3 w3 h1 h2 h3 h4
  have HB3 : Hid (Below w.heap.size w w3) := HB2.out.grown h2 HB2.out.size (fun q hq => by have h5 := (HO2.out.lt q hq).1; exact Nat.le_trans HB1.out.size h5)
  have HP3 : Hid (Pis w3 S (.name (0 :: R)) (.iface 226 (.agg #[v3]))) := by
    refine ⟨v3, rfl, BSl.own h1 ?_, by simp, fun q hq hs => ?_, ?_⟩
    · intro x hx
      rcases List.mem_cons.1 hx with e | e
      · rw [e]; decide
      · exact HS1.out.byte x e
    · have h5 := (h1.lt q hq).1
      have h6 := HSq.out q hs
      have h7 := HB1.out.size
      omega
    · show R.length + 1 ≤ 1000
      have := HLR.out
      omega
  obtain ⟨a3, c3, hv3⟩ := own_slice7 h1
  subst hv3
  clear h1 h2 h3 h4
  go_wp2_with fail
  go_ret
  exact ⟨_, rfl, HB3.out, HP3.out⟩
end
section
open Go.RowKit Go
set_option maxRecDepth 1000000 in
set_option maxHeartbeats 2000000 in
theorem partOf_any (w : World) (S : Nat → Prop) (hS : ∀ q, S q → q < w.heap.size) (t : Tv) (cs : Array Value) (ht : Tis w S t cs) :
    Calls Tryz.prog 72 #[.agg cs] w (PartP w S (prt t)) := by
  have hb0 := below_alloc4 w (.cells cs 62)
  have HB0 := hide hb0
  have HG0 := hide (heap_alloc_new w (.cells cs 62))
  have HSq := hide hS
  have ht0 := ht.kp (Kp.of_below hb0)
  clear ht hb0 hS
  generalize hw0 : w.alloc (.cells cs 62) = w0 at *
  have HW0 := hide hw0
  clear hw0
  cases ht0 with
  | mk _ vy vk vi hb hy hys hk hks cx a cap hv hc hm hi ha =>
  subst hv
  have HBD := hide hb
  have HY := hide hy
  have HYS := hide hys
  have HK := hide hk
  have HKS := hide hks
  have HV : Hid (Vis w0 S (.slice a t.is.length cap) t.is) := ⟨⟨a, cap, cx, rfl, hc, hi, ha⟩, hm⟩
  obtain ⟨⟨ay, cy, hvy, _, _⟩, _, _⟩ := hy
  obtain ⟨⟨ak, ck, hvk, _, _⟩, _, _⟩ := hk
  subst hvy
  subst hvk
  clear hb hys hks hc hm hi ha
  have q0 : w0.cell? ⟨w.heap.size, 0, none⟩ = some (.int .i64 t.k) := blk_cell (j := 0) HG0.out rfl
  have HPT : Hid (prt t = if t.k = 2 then .truth t.f else if t.k = 3 then .whole t.g t.n else if t.k = 4 then .float t.b else if t.k = 5 then .text t.s else if t.k = 6 then .octets t.y else if t.k = 7 then .name (0 :: lrow t.l) else if t.k = 8 then .list t.is else if t.k = 9 then .entries t.ks t.is else .null) := rfl
  generalize prt t = P at *
  have HLC : Hid (∀ j u, (#[.int .i64 t.l.v, .int .u64 (t.l.c : Nat), .int .u64 (t.l.h : Nat), .string (nstr t.l.d)] : Array Value)[j]? = some u → w0.cell? ⟨w.heap.size, 7 + j, none⟩ = some u) := fun j u hu => blk_cell (j := 7 + j) HG0.out (by
    have hj := (Array.getElem?_eq_some_iff.1 hu).1
    have hj2 : j < 4 := hj
    have : j = 0 ∨ j = 1 ∨ j = 2 ∨ j = 3 := by omega
    rcases this with rfl | rfl | rfl | rfl <;> exact hu)
  by_cases h2 : t.k = 2
  · as_aux_lemma =>
    have g2 : (t.k == 2) = true := beq_iff_eq.2 h2
    have HPP : Hid (P = .truth t.f) := by show _ = _; rw [HPT.out, if_pos h2]
    have q1 : w0.cell? ⟨w.heap.size, 1, none⟩ = some (.bool t.f) := blk_cell (j := 1) HG0.out rfl
    clear h2 HPT
    go_enter Tryz.func72, Tryz.ntmps72
    go_upto_region 1 with fail
    rw [HW0.out]
    go_wp2_with fail
    go_ret
    exact ⟨_, rfl, HB0.out, by rw [HPP.out]; exact rfl⟩
  by_cases h3 : t.k = 3
  · as_aux_lemma =>
    have g2 : (t.k == 2) = false := beq_eq_false_iff_ne.2 h2
    have g3 : (t.k == 3) = true := beq_iff_eq.2 h3
    have HPP : Hid (P = .whole t.g t.n) := by show _ = _; rw [HPT.out, if_neg h2, if_pos h3]
    have q2 : w0.cell? ⟨w.heap.size, 2, none⟩ = some (.bool t.g) := blk_cell (j := 2) HG0.out rfl
    have q3 : w0.cell? ⟨w.heap.size, 3, none⟩ = some (.int .u64 (t.n : Nat)) := blk_cell (j := 3) HG0.out rfl
    clear h2 h3 HPT
    go_enter Tryz.func72, Tryz.ntmps72
    go_upto_region 1 with fail
    rw [HW0.out]
    go_wp2_with fail
    go_ret
    exact ⟨_, rfl, HB0.out, by rw [HPP.out]; exact ⟨rfl, HBD.out.n⟩⟩
  by_cases h4 : t.k = 4
  · as_aux_lemma =>
    have g2 : (t.k == 2) = false := beq_eq_false_iff_ne.2 h2
    have g3 : (t.k == 3) = false := beq_eq_false_iff_ne.2 h3
    have g4 : (t.k == 4) = true := beq_iff_eq.2 h4
    have HPP : Hid (P = .float t.b) := by show _ = _; rw [HPT.out, if_neg h2, if_neg h3, if_pos h4]
    have q4 : w0.cell? ⟨w.heap.size, 4, none⟩ = some (.int .u64 (t.b : Nat)) := blk_cell (j := 4) HG0.out rfl
    clear h2 h3 h4 HPT
    go_enter Tryz.func72, Tryz.ntmps72
    go_upto_region 1 with fail
    rw [HW0.out]
    go_wp2_with fail
    go_ret
    exact ⟨_, rfl, HB0.out, by rw [HPP.out]; exact ⟨rfl, HBD.out.b⟩⟩
  by_cases h5 : t.k = 5
  · as_aux_lemma =>
    have g2 : (t.k == 2) = false := beq_eq_false_iff_ne.2 h2
    have g3 : (t.k == 3) = false := beq_eq_false_iff_ne.2 h3
    have g4 : (t.k == 4) = false := beq_eq_false_iff_ne.2 h4
    have g5 : (t.k == 5) = true := beq_iff_eq.2 h5
    have HPP : Hid (P = .text t.s) := by show _ = _; rw [HPT.out, if_neg h2, if_neg h3, if_neg h4, if_pos h5]
    have q5 : w0.cell? ⟨w.heap.size, 5, none⟩ = some (.string t.s) := blk_cell (j := 5) HG0.out rfl
    clear h2 h3 h4 h5 HPT
    go_enter Tryz.func72, Tryz.ntmps72
    go_upto_region 1 with fail
    rw [HW0.out]
    go_wp2_with fail
    go_ret
    exact ⟨_, rfl, HB0.out, by rw [HPP.out]; exact ⟨rfl, HBD.out.s⟩⟩
  by_cases h6 : t.k = 6
  · as_aux_lemma =>
    have g2 : (t.k == 2) = false := beq_eq_false_iff_ne.2 h2
    have g3 : (t.k == 3) = false := beq_eq_false_iff_ne.2 h3
    have g4 : (t.k == 4) = false := beq_eq_false_iff_ne.2 h4
    have g5 : (t.k == 5) = false := beq_eq_false_iff_ne.2 h5
    have g6 : (t.k == 6) = true := beq_iff_eq.2 h6
    have HPP : Hid (P = .octets t.y) := by show _ = _; rw [HPT.out, if_neg h2, if_neg h3, if_neg h4, if_neg h5, if_pos h6]
    have q6 : w0.cell? ⟨w.heap.size, 6, none⟩ = some (.slice ay t.y.length cy) := blk_cell (j := 6) HG0.out rfl
    clear h2 h3 h4 h5 h6 HPT
    go_enter Tryz.func72, Tryz.ntmps72
    go_upto_region 1 with fail
    rw [HW0.out]
    go_wp2_with fail
    go_ret
    exact ⟨_, rfl, HB0.out, by rw [HPP.out]; exact ⟨_, rfl, HY.out, HYS.out, HBD.out.y⟩⟩
  by_cases h7 : t.k = 7
  · as_aux_lemma =>
    have g2 : (t.k == 2) = false := beq_eq_false_iff_ne.2 h2
    have g3 : (t.k == 3) = false := beq_eq_false_iff_ne.2 h3
    have g4 : (t.k == 4) = false := beq_eq_false_iff_ne.2 h4
    have g5 : (t.k == 5) = false := beq_eq_false_iff_ne.2 h5
    have g6 : (t.k == 6) = false := beq_eq_false_iff_ne.2 h6
    have g7 : (t.k == 7) = true := beq_iff_eq.2 h7
    have HPP : Hid (P = .name (0 :: lrow t.l)) := by show _ = _; rw [HPT.out, if_neg h2, if_neg h3, if_neg h4, if_neg h5, if_neg h6, if_pos h7]
    clear h2 h3 h4 h5 h6 h7 HPT
    go_enter Tryz.func72, Tryz.ntmps72
    go_upto_region 1 with fail
    rw [HW0.out]
    go_wp2_with (refine wpList_exec rfl (exec_lkAt7 (g := w.heap.size) (off := 7) (cs := #[.int .i64 t.l.v, .int .u64 (t.l.c : Nat), .int .u64 (t.l.h : Nat), .string (nstr t.l.d)]) rfl rfl rfl HLC.out) ?_)
    refine (nameOf_any w0 S (fun q hq => Nat.lt_of_lt_of_le (HSq.out q hq) HB0.out.size) t.l HBD.out.l).mono ?_
    rintro e w1 ⟨v1, rfl, hb1, hp1⟩
    have HB1 : Hid (Below w.heap.size w w1) := HB0.out.trans (hb1.mono HB0.out.size)
    have HP1 := hide hp1
    clear hb1 hp1 q0
    go_wp2_with fail
    go_ret
    exact ⟨_, rfl, HB1.out, by rw [HPP.out]; exact HP1.out⟩
  by_cases h8 : t.k = 8
  · as_aux_lemma =>
    have g2 : (t.k == 2) = false := beq_eq_false_iff_ne.2 h2
    have g3 : (t.k == 3) = false := beq_eq_false_iff_ne.2 h3
    have g4 : (t.k == 4) = false := beq_eq_false_iff_ne.2 h4
    have g5 : (t.k == 5) = false := beq_eq_false_iff_ne.2 h5
    have g6 : (t.k == 6) = false := beq_eq_false_iff_ne.2 h6
    have g7 : (t.k == 7) = false := beq_eq_false_iff_ne.2 h7
    have g8 : (t.k == 8) = true := beq_iff_eq.2 h8
    have HPP : Hid (P = .list t.is) := by show _ = _; rw [HPT.out, if_neg h2, if_neg h3, if_neg h4, if_neg h5, if_neg h6, if_neg h7, if_pos h8]
    have q12 : w0.cell? ⟨w.heap.size, 12, none⟩ = some (.slice a t.is.length cap) := blk_cell (j := 12) HG0.out rfl
    clear h2 h3 h4 h5 h6 h7 h8 HPT
    go_enter Tryz.func72, Tryz.ntmps72
    go_upto_region 1 with fail
    rw [HW0.out]
    go_wp2_with fail
    go_ret
    exact ⟨_, rfl, HB0.out, by rw [HPP.out]; exact ⟨_, rfl, HV.out⟩⟩
  by_cases h9 : t.k = 9
  · as_aux_lemma =>
    have g2 : (t.k == 2) = false := beq_eq_false_iff_ne.2 h2
    have g3 : (t.k == 3) = false := beq_eq_false_iff_ne.2 h3
    have g4 : (t.k == 4) = false := beq_eq_false_iff_ne.2 h4
    have g5 : (t.k == 5) = false := beq_eq_false_iff_ne.2 h5
    have g6 : (t.k == 6) = false := beq_eq_false_iff_ne.2 h6
    have g7 : (t.k == 7) = false := beq_eq_false_iff_ne.2 h7
    have g8 : (t.k == 8) = false := beq_eq_false_iff_ne.2 h8
    have g9 : (t.k == 9) = true := beq_iff_eq.2 h9
    have HPP : Hid (P = .entries t.ks t.is) := by show _ = _; rw [HPT.out, if_neg h2, if_neg h3, if_neg h4, if_neg h5, if_neg h6, if_neg h7, if_neg h8, if_pos h9]
    have q11 : w0.cell? ⟨w.heap.size, 11, none⟩ = some (.slice ak t.ks.length ck) := blk_cell (j := 11) HG0.out rfl
    have q12 : w0.cell? ⟨w.heap.size, 12, none⟩ = some (.slice a t.is.length cap) := blk_cell (j := 12) HG0.out rfl
    clear h2 h3 h4 h5 h6 h7 h8 h9 HPT
    go_enter Tryz.func72, Tryz.ntmps72
    go_upto_region 1 with fail
    rw [HW0.out]
    go_wp2_with fail
    go_ret
    exact ⟨_, rfl, HB0.out, by rw [HPP.out]; exact ⟨_, _, rfl, HK.out, HKS.out, HV.out⟩⟩
  as_aux_lemma =>
    have g2 : (t.k == 2) = false := beq_eq_false_iff_ne.2 h2
    have g3 : (t.k == 3) = false := beq_eq_false_iff_ne.2 h3
    have g4 : (t.k == 4) = false := beq_eq_false_iff_ne.2 h4
    have g5 : (t.k == 5) = false := beq_eq_false_iff_ne.2 h5
    have g6 : (t.k == 6) = false := beq_eq_false_iff_ne.2 h6
    have g7 : (t.k == 7) = false := beq_eq_false_iff_ne.2 h7
    have g8 : (t.k == 8) = false := beq_eq_false_iff_ne.2 h8
    have g9 : (t.k == 9) = false := beq_eq_false_iff_ne.2 h9
    have HPP : Hid (P = .null) := by show _ = _; rw [HPT.out, if_neg h2, if_neg h3, if_neg h4, if_neg h5, if_neg h6, if_neg h7, if_neg h8, if_neg h9]
    clear h2 h3 h4 h5 h6 h7 h8 h9 HPT
    go_enter Tryz.func72, Tryz.ntmps72
    go_upto_region 1 with fail
    rw [HW0.out]
    go_wp2_with fail
    go_ret
    exact ⟨_, rfl, HB0.out, by rw [HPP.out]; exact rfl⟩
end
section
open Go.RowKit Go
/-- What below tells. -/
def BelP (w : World) (S : Nat → Prop) (ps : List Prt) (e : Ending) (w' : World) : Prop :=
  ∃ (vp : Value) (vs : List Value), e = .returned vp ∧ Below w.heap.size w w' ∧ w'.ownsRow w.heap.size 104 1 vp ps.length vs ∧ ∀ (i : Nat) (p : Prt) (v : Value), ps[i]? = some p → vs[i]? = some v → Pis w' S p v
theorem BelP.none (w : World) (S : Nat → Prop) : BelP w S [] (.returned (.slice none 0 0)) w := ⟨_, [], rfl, Below.refl _ _, World.ownsRow_nil _ _ _ _, fun i p v hp => by simp at hp⟩
set_option maxRecDepth 1000000 in
set_option maxHeartbeats 2000000 in
theorem below_none (w : World) (S : Nat → Prop) (p : Prt) (v : Value) (hp : Pis w S p v) (h1 : ∀ is, p ≠ .list is) (h2 : ∀ ks is, p ≠ .entries ks is) :
    Calls Tryz.prog 116 #[v] w (BelP w S (pbl p)) := by
  cases p with
  | null =>
    have e : v = _ := hp
    subst e
    clear hp h1 h2
    have t1 : ∀ w, (Instr.typeAssert (.iface 204 (.agg #[])) 104 200 true).run Tryz.prog w = .ok (.tuple #[.slice none 0 0, .bool false]) w := fun _ => by kernel_rfl
    have t2 : ∀ w, (Instr.typeAssert (.iface 204 (.agg #[])) 104 202 true).run Tryz.prog w = .ok (.tuple #[.agg #[.slice none 0 0, .slice none 0 0], .bool false]) w := fun _ => by kernel_rfl
    go_enter Tryz.func116, Tryz.ntmps116
    go_wp2_with fail
    go_ret
    exact BelP.none w S
  | truth b =>
    have e : v = _ := hp
    subst e
    clear hp h1 h2
    have t1 : ∀ w, (Instr.typeAssert (.iface 193 (.bool b)) 104 200 true).run Tryz.prog w = .ok (.tuple #[.slice none 0 0, .bool false]) w := fun _ => by kernel_rfl
    have t2 : ∀ w, (Instr.typeAssert (.iface 193 (.bool b)) 104 202 true).run Tryz.prog w = .ok (.tuple #[.agg #[.slice none 0 0, .slice none 0 0], .bool false]) w := fun _ => by kernel_rfl
    go_enter Tryz.func116, Tryz.ntmps116
    go_wp2_with fail
    go_ret
    exact BelP.none w S
  | whole g n =>
    obtain ⟨e, -⟩ := hp
    subst e
    clear h1 h2
    have t1 : ∀ w, (Instr.typeAssert (.iface 195 (.agg #[.bool g, .int .u64 (n : Nat)])) 104 200 true).run Tryz.prog w = .ok (.tuple #[.slice none 0 0, .bool false]) w := fun _ => by kernel_rfl
    have t2 : ∀ w, (Instr.typeAssert (.iface 195 (.agg #[.bool g, .int .u64 (n : Nat)])) 104 202 true).run Tryz.prog w = .ok (.tuple #[.agg #[.slice none 0 0, .slice none 0 0], .bool false]) w := fun _ => by kernel_rfl
    go_enter Tryz.func116, Tryz.ntmps116
    go_wp2_with fail
    go_ret
    exact BelP.none w S
  | float b =>
    obtain ⟨e, -⟩ := hp
    subst e
    clear h1 h2
    have t1 : ∀ w, (Instr.typeAssert (.iface 196 (.int .u64 (b : Nat))) 104 200 true).run Tryz.prog w = .ok (.tuple #[.slice none 0 0, .bool false]) w := fun _ => by kernel_rfl
    have t2 : ∀ w, (Instr.typeAssert (.iface 196 (.int .u64 (b : Nat))) 104 202 true).run Tryz.prog w = .ok (.tuple #[.agg #[.slice none 0 0, .slice none 0 0], .bool false]) w := fun _ => by kernel_rfl
    go_enter Tryz.func116, Tryz.ntmps116
    go_wp2_with fail
    go_ret
    exact BelP.none w S
  | text s =>
    obtain ⟨e, -⟩ := hp
    subst e
    clear h1 h2
    have t1 : ∀ w, (Instr.typeAssert (.iface 197 (.string s)) 104 200 true).run Tryz.prog w = .ok (.tuple #[.slice none 0 0, .bool false]) w := fun _ => by kernel_rfl
    have t2 : ∀ w, (Instr.typeAssert (.iface 197 (.string s)) 104 202 true).run Tryz.prog w = .ok (.tuple #[.agg #[.slice none 0 0, .slice none 0 0], .bool false]) w := fun _ => by kernel_rfl
    go_enter Tryz.func116, Tryz.ntmps116
    go_wp2_with fail
    go_ret
    exact BelP.none w S
  | octets y =>
    obtain ⟨vb, e, hb, -, -⟩ := hp
    obtain ⟨⟨a, c, hv, _⟩, _⟩ := hb
    subst hv
    subst e
    clear h1 h2
    have t1 : ∀ w, (Instr.typeAssert (.iface 198 (.slice a y.length c)) 104 200 true).run Tryz.prog w = .ok (.tuple #[.slice none 0 0, .bool false]) w := fun _ => by kernel_rfl
    have t2 : ∀ w, (Instr.typeAssert (.iface 198 (.slice a y.length c)) 104 202 true).run Tryz.prog w = .ok (.tuple #[.agg #[.slice none 0 0, .slice none 0 0], .bool false]) w := fun _ => by kernel_rfl
    go_enter Tryz.func116, Tryz.ntmps116
    go_wp2_with fail
    go_ret
    exact BelP.none w S
  | name y =>
    obtain ⟨vb, e, hb, -⟩ := hp
    obtain ⟨⟨a, c, hv, _⟩, _⟩ := hb
    subst hv
    subst e
    clear h1 h2
    have t1 : ∀ w, (Instr.typeAssert (.iface 226 (.agg #[.slice a y.length c])) 104 200 true).run Tryz.prog w = .ok (.tuple #[.slice none 0 0, .bool false]) w := fun _ => by kernel_rfl
    have t2 : ∀ w, (Instr.typeAssert (.iface 226 (.agg #[.slice a y.length c])) 104 202 true).run Tryz.prog w = .ok (.tuple #[.agg #[.slice none 0 0, .slice none 0 0], .bool false]) w := fun _ => by kernel_rfl
    go_enter Tryz.func116, Tryz.ntmps116
    go_wp2_with fail
    go_ret
    exact BelP.none w S
  | list is => exact absurd rfl (h1 is)
  | entries ks is => exact absurd rfl (h2 ks is)
theorem infoP7_ex : ∃ i, Tryz.prog.info? 104 = some i ∧ i.zero = some .nilIface ∧ i.size = 1 ∧ i.bytes = 16 := by
  have h : (Tryz.prog.info? 104).map (fun i => (i.size, i.bytes)) = some (1, 16) := by kernel_rfl
  have h2 : (Tryz.prog.info? 104).bind (fun i => i.zero) = some .nilIface := by kernel_rfl
  cases hi : Tryz.prog.info? 104 with
  | none => rw [hi] at h; cases h
  | some i =>
    rw [hi] at h h2
    simp at h h2
    exact ⟨i, rfl, h2, h.1, h.2⟩
theorem append_parts {ops : Array Oper} {rest : List Oper} {o : Oper} {a : Act} {Q : Exit → Act → World → Prop} {w : World} (hgd : o.guard = none) (s x : Operand)
    (ho : o.op = .call { callee := .builtin .append, args := #[s, x], argTypes := #[206, 206] }) (B : Nat) (v : Value) (n : Nat) (ds : List Value) (hs : a.eval s = v) (hown : w.ownsRow B 104 1 v n ds)
    (g m : Nat) (xs : List Value) (hx : a.eval x = .slice (some ⟨g, 0, none⟩) m m) (hm : xs.length = m) (hg : w.heap[g]? = some (.cells xs.toArray 104 (0, 0))) (h1 : ∀ u ∈ xs, u.oneCell' = true) (hlen : n + m ≤ 1099511627776) (hbase : B ≤ w.heap.size)
    (h : ∀ v' w', w'.ownsRow B 104 1 v' (n + m) (ds ++ xs) → w.grownBy w' v.ownBlock → At7 w v v' → wpList Tryz.prog ops Q rest (a.put o.dst v') w') : wpList Tryz.prog ops Q (o :: rest) a w := by
  obtain ⟨i, hi, hz0, hz1, hz2⟩ := infoP7_ex
  refine wpList_append_own_at w hgd s x 206 ho B 104 i _ 1 16 Tryz.underlying206 hi hz0 hz1 hz2 rfl (by decide) v n ds hs hown ⟨g, 0, none⟩ m m xs hx (by omega) (fun j u hu => ?_) h1 (by unfold maxLen; omega) (by omega) hbase fun v' w' h1 h2 _ h4 => h v' w' h1 h2 ?_
  · have hadd : (⟨g, 0, none⟩ : Addr).add j = ⟨g, j, none⟩ := by unfold Addr.add; split <;> simp_all
    rw [hadd]
    exact blk_cell hg (by simpa using hu)
  · rcases h4 with e | e
    · exact .inl e
    · exact .inr (fun q hq => by rw [e] at hq; injection hq with hq; omega)
end
section
open Go.RowKit Go
structure Bl7 (w wx : World) (S : Nat → Prop) (ps : List Prt) (k : Nat) (vp : Value) (vs : List Value) : Prop where
  b : Below w.heap.size w wx
  o : wx.ownsRow w.heap.size 104 1 vp k vs
  p : ∀ (i : Nat) (p : Prt) (v : Value), i < k → ps[i]? = some p → vs[i]? = some v → Pis wx (fun q => S q ∨ vp.ownBlock = some q) p v
theorem Bl7.len {w wx : World} {S : Nat → Prop} {ps : List Prt} {k : Nat} {vp : Value} {vs : List Value} (h : Bl7 w wx S ps k vp vs) : vs.length = k := by
  have := h.o.1
  omega
theorem Bl7.next {w wx wy : World} {S : Nat → Prop} {ps : List Prt} {k : Nat} {vp : Value} {vs : List Value} (h : Bl7 w wx S ps k vp vs) (hb : Below wx.heap.size wx wy) : Bl7 w wy S ps k vp vs :=
  ⟨h.b.trans (hb.mono h.b.size), (Kp.of_below (S := fun _ => False) hb).owns h.o (fun _ _ h => h), fun i p v hi hp hv => (h.p i p v hi hp hv).live (Kp.of_below hb) (fun _ hq => .inl hq)⟩
/-- Some parts more. -/
theorem Bl7.add {w wx wy : World} {S : Nat → Prop} {ps : List Prt} {k m : Nat} {vp vp' : Value} {vs us : List Value} (h : Bl7 w wx S ps k vp vs) (ho : wy.ownsRow w.heap.size 104 1 vp' (k + m) (vs ++ us)) (hg : wx.grownBy wy vp.ownBlock) (ha : At7 wx vp vp')
    (hu : ∀ (i : Nat) (p : Prt) (v : Value), ps[k + i]? = some p → us[i]? = some v → Pis wx (fun q => S q ∨ vp.ownBlock = some q) p v) : Bl7 w wy S ps (k + m) vp' (vs ++ us) := by
  have hk : Kp (fun q => S q ∨ vp.ownBlock = some q) wx wy := (kp_grown hg).mono (fun q _ e => .inr e)
  have ht : ∀ q, (S q ∨ vp'.ownBlock = some q) → (S q ∨ vp.ownBlock = some q) ∨ wx.heap.size ≤ q := fun q hq => by
    rcases hq with e | e
    · exact .inl (.inl e)
    · rcases ha with e2 | e2
      · exact .inl (.inr (e2 ▸ e))
      · exact .inr (e2 q e)
  refine ⟨h.b.grown hg h.b.size (fun q hq => (h.o.lt q hq).1), ho, fun i p v hi hp hv => ?_⟩
  have hl := h.len
  by_cases hik : i < k
  · rw [List.getElem?_append_left (by omega)] at hv
    exact (h.p i p v hik hp hv).live hk ht
  · rw [List.getElem?_append_right (by omega), hl] at hv
    exact (hu (i - k) p v (by rw [show k + (i - k) = i by omega]; exact hp) hv).live hk ht
theorem Bl7.out {w wx : World} {S : Nat → Prop} {ps : List Prt} {k : Nat} {vp : Value} {vs : List Value} (h : Bl7 w wx S ps k vp vs) (hk : k = ps.length) : BelP w S ps (.returned vp) wx := by
  subst hk
  exact ⟨vp, vs, rfl, h.b, h.o, fun i p v hp hv => (h.p i p v (List.getElem?_eq_some_iff.1 hp).1 hp hv).live (Kp.refl _ _) (fun q hq => .inl (.inl hq))⟩
theorem itm_mk7 (w : World) (c : Array Value) : Below w.heap.size w ((w.alloc (.cells zv 62)).setRow w.heap.size c) ∧ ((w.alloc (.cells zv 62)).setRow w.heap.size c).heap[w.heap.size]? = some (.cells c 62 (0, 0)) :=
  ⟨(below_alloc4 w _).trans ((row_kp _ _ _).below (below_alloc4 w _).size (fun q e => by omega)), row_same (heap_alloc_new w _)⟩
theorem pis_one {w : World} {S : Nat → Prop} {p : Prt} {v : Value} (h : Pis w S p v) : ∃ T x, v = .iface T x := by
  cases p with
  | null => exact ⟨_, _, h⟩
  | truth b => exact ⟨_, _, h⟩
  | whole g n => exact ⟨_, _, h.1⟩
  | float b => exact ⟨_, _, h.1⟩
  | text s => exact ⟨_, _, h.1⟩
  | octets y => obtain ⟨_, e, _⟩ := h; exact ⟨_, _, e⟩
  | name y => obtain ⟨_, e, _⟩ := h; exact ⟨_, _, e⟩
  | list is => obtain ⟨_, e, _⟩ := h; exact ⟨_, _, e⟩
  | entries ks is => obtain ⟨_, _, e, _⟩ := h; exact ⟨_, _, e⟩
set_option maxRecDepth 1000000 in
set_option maxHeartbeats 4000000 in
theorem below_list (w : World) (S : Nat → Prop) (hS : ∀ q, S q → q < w.heap.size) (is : List Tv) (v : Value) (hp : Pis w S (.list is) v) (hil : is.length ≤ 100000000) :
    Calls Tryz.prog 116 #[v] w (BelP w S (is.map prt)) := by
  obtain ⟨vi, e, hv⟩ := hp
  subst e
  have HV := hide hv
  have HSq := hide hS
  obtain ⟨⟨a, cap, cx, rfl, hcc, -, -⟩, hmx⟩ := hv
  have t1 : ∀ w, (Instr.typeAssert (.iface 200 (.slice a is.length cap)) 104 200 true).run Tryz.prog w = .ok (.tuple #[.slice a is.length cap, .bool true]) w := fun _ => by kernel_rfl
  have HB0 : Hid (Bl7 w w S (is.map prt) 0 (.slice none 0 0) []) := ⟨Below.refl _ _, World.ownsRow_nil _ _ _ _, fun i p v hi => by omega⟩
  clear hS hcc hmx
  go_enter Tryz.func116, Tryz.ntmps116
  go_wp2_with fail
  go_loopw [3, 16] (fun vp kk wx => ∃ (k : Nat) (vs : List Value), k ≤ is.length ∧ kk = .int .i64 (k : Nat) ∧ Hid (Bl7 w wx S (is.map prt) k vp vs)) (fun _ kk _ => is.length - (intOf kk).toNat)
  case atStart => exact ⟨0, [], by omega, rfl, HB0⟩
  case round =>
    rename World => wx
    obtain ⟨k, vs, hk, rfl, HX⟩ := hrel
    clear HB0 t1
    by_cases hlt : k < is.length
    · as_aux_lemma =>
      have g1 : (k : Int) < (is.length : Int) := by omega
      obtain ⟨⟨a', cap', cs, hva, -, hts, hform⟩, -⟩ := HV.out
      injection hva with e1 e2 e3
      subst e1
      obtain ⟨b, off, ha, hnb, hcell⟩ := hform.resolve_left (fun e => by rw [e] at hlt; simp at hlt)
      subst ha
      have hti := hts k _ (List.getElem?_eq_getElem hlt)
      have HSZ := hide hti.tin.size13
      have HA1 := hide hti.tin.all1
      have HCC : Hid (∀ j u, (cs k)[j]? = some u → wx.cell? ⟨b, off + k * 13 + j, none⟩ = some u) := fun j u hu => keep_below HX.out.b _ _ (hcell k hlt j u hu)
      have hmk := itm_mk7 wx (cs k)
      have HXN := hide (HX.out.next hmk.1)
      have HNB := hide (heap_alloc_new wx (.cells zv 62))
      have HVB := hide hmk.2
      have HI5 : Hid ((Tryz.prog.info? 62).map (·.size) = some (cs k).size) := by show _ = _; rw [HSZ.out]; exact infoV
      have HZ5 : Hid (zv.size = (cs k).size) := by show _ = _; rw [HSZ.out]; rfl
      have HTI : Hid (Tis w S (is[k]) (cs k)) := hti
      have HPK : Hid ((is.map prt)[k]? = some (prt is[k])) := by show _ = _; rw [List.getElem?_map, List.getElem?_eq_getElem hlt]; rfl
      generalize is[k] = tk at *
      generalize cs k = ck at *
      have HLT := hide hlt
      obtain ⟨av, cv, hvv⟩ := own_slice7 HX.out.o
      subst hvv
      clear hform hcell hts hmk hti hnb e2 e3 hlt
      go_upto_region 8 with (first
        | (refine wpList_exec rfl (exec_valAt (g := b) (off := off + k * 13) (cs := ck) rfl rfl HSZ.out HCC.out) ?_)
        | (refine wpList_storeRow rfl rfl wx.heap.size zv ck 62 rfl rfl HNB.out HI5.out HZ5.out HA1.out ?_))
      (try simp only [Act.put]); (try simp only [List.setIfInBounds_toArray, List.set_cons_zero, List.set_cons_succ])
      unfold zv at HXN HVB
      generalize (wx.alloc (.cells #[.int .i64 0, .bool false, .bool false, .int .u64 0, .int .u64 0, .string ⟨#[]⟩, .slice none 0 0, .int .i64 0, .int .u64 0, .int .u64 0, .string ⟨#[]⟩, .slice none 0 0, .slice none 0 0] 62)).setRow wx.heap.size ck = wy at *
      have HVC : Hid (∀ j u, ck[j]? = some u → wy.cell? ⟨wx.heap.size, 0 + j, none⟩ = some u) := fun j u hu => by rw [Nat.zero_add]; exact blk_cell HVB.out hu
      have hwy := HXN.out.b
      have HTY : Hid (Tis wy (fun q => S q ∨ (Value.slice av k cv).ownBlock = some q) tk ck) := tis_live7 HTI.out (Kp.of_below hwy) (fun q hq => by
        rcases hq with e | e
        · exact .inl e
        · exact .inr (HXN.out.o.lt q e).1)
      have HPC := hide (partOf_any wy (fun q => S q ∨ (Value.slice av k cv).ownBlock = some q) (fun q hq => by
        rcases hq with e | e
        · exact Nat.lt_of_lt_of_le (HSq.out q e) hwy.size
        · exact (HXN.out.o.lt q e).2) tk ck HTY.out)
      clear hwy HX HCC HNB
      go_wp2_with (refine wpList_exec rfl (exec_valAt (g := wx.heap.size) (off := 0) (cs := ck) rfl rfl HSZ.out HVC.out) ?_)
      refine HPC.out.mono ?_
      rintro e w1 ⟨v1, rfl, hb1, hp1⟩
      obtain ⟨T1, x1, e1⟩ := pis_one hp1
      subst e1
      have hb2 := below_alloc4 w1 (.cells #[.iface T1 x1] 104)
      have HX2 := hide ((HXN.out.next hb1).next hb2)
      have HP2 := hide (hp1.live (Kp.of_below hb2) (fun _ hq => .inl hq))
      have HG2 := hide (heap_alloc_new w1 (.cells #[.iface T1 x1] 104))
      have HBz : Hid (w.heap.size ≤ (w1.alloc (.cells #[.iface T1 x1] 104)).heap.size) := HX2.out.b.size
      clear hb1 hp1 hb2 HPC HXN HVC HVB HTY
      go_wp2_with (at_builtin; refine append_parts rfl _ _ rfl w.heap.size _ k vs rfl HX2.out.o w1.heap.size 1 [.iface T1 x1] rfl rfl HG2.out (fun u hu => by rw [List.mem_singleton.1 hu]; rfl) (by omega) HBz.out ?_)
      intro v3 w3 h1 h2 h3
      have HX3 : Hid (Bl7 w w3 S (is.map prt) (k + 1) v3 (vs ++ [.iface T1 x1])) := HX2.out.add (us := [.iface T1 x1]) h1 h2 h3 (fun i p v hp hv => by
        cases i with
        | zero =>
          rw [Nat.add_zero, HPK.out] at hp
          injection hp with hp
          subst hp
          have e5 : v = .iface T1 x1 := by simpa using hv.symm
          rw [e5]
          exact HP2.out
        | succ i => simp at hv)
      obtain ⟨a3, c3, hv3⟩ := own_slice7 HX3.out.o
      subst hv3
      clear h1 h2 h3 HX2 HP2 HG2 HBz
      go_wp2_with fail
      go_roundw
      case rel => exact ⟨k + 1, _, by have := HLT.out; omega, by go_num, HX3⟩
      case measure => have := HLT.out; simp [intOf]; omega
    · as_aux_lemma =>
      have g1 : ¬ (k : Int) < (is.length : Int) := by omega
      have HF : Hid (BelP w S (is.map prt) (.returned u3) wx) := HX.out.out (by rw [List.length_map]; omega)
      clear hlt
      go_wp2_with fail
      go_ret
      exact HF.out
end
section
open Go.RowKit Go
theorem row_mk7 (w : World) (z c : Array Value) (t : TypeId) : Below w.heap.size w ((w.alloc (.cells z t)).setRow w.heap.size c) ∧ ((w.alloc (.cells z t)).setRow w.heap.size c).heap[w.heap.size]? = some (.cells c t (0, 0)) :=
  ⟨(below_alloc4 w _).trans ((row_kp _ _ _).below (below_alloc4 w _).size (fun q e => by omega)), row_same (heap_alloc_new w _)⟩
theorem pairs_get {γ δ : Type} (A B : γ → δ) : ∀ (l : List γ) (i : Nat), (l.flatMap fun x => [A x, B x])[2 * i]? = (l[i]?).map A ∧ (l.flatMap fun x => [A x, B x])[2 * i + 1]? = (l[i]?).map B
  | [], i => by simp
  | x :: r, 0 => by simp
  | x :: r, i + 1 => by
    have h := pairs_get A B r i
    rw [List.flatMap_cons]
    constructor
    · rw [List.getElem?_append_right (by show 2 ≤ _; omega)]
      show (r.flatMap _)[2 * (i + 1) - 2]? = _
      rw [show 2 * (i + 1) - 2 = 2 * i by omega, h.1]
      simp
    · rw [List.getElem?_append_right (by show 2 ≤ _; omega)]
      show (r.flatMap _)[2 * (i + 1) + 1 - 2]? = _
      rw [show 2 * (i + 1) + 1 - 2 = 2 * i + 1 by omega, h.2]
      simp
theorem pairs_len {γ δ : Type} (A B : γ → δ) : ∀ (l : List γ), (l.flatMap fun x => [A x, B x]).length = 2 * l.length
  | [] => rfl
  | x :: r => by
    have h := pairs_len A B r
    rw [List.flatMap_cons, List.length_append, h]
    show 2 + 2 * r.length = 2 * (r.length + 1)
    omega
set_option maxRecDepth 1000000 in
set_option maxHeartbeats 4000000 in
theorem below_entries (w : World) (S : Nat → Prop) (hS : ∀ q, S q → q < w.heap.size) (ks : List ByteArray) (is : List Tv) (v : Value) (hp : Pis w S (.entries ks is) v) (hil : is.length ≤ 100000000) (hkl : ks.length = is.length) :
    Calls Tryz.prog 116 #[v] w (BelP w S (pbl (.entries ks is))) := by
  obtain ⟨vk, vi, e, hk, hks, hv⟩ := hp
  subst e
  have HV := hide hv
  have HK := hide hk
  have HSq := hide hS
  obtain ⟨⟨a, cap, cx, rfl, hcc, -, -⟩, hmx⟩ := hv
  obtain ⟨⟨ak, ck, rfl, hkc, hkf⟩, hkm, hkz⟩ := hk
  have HKF := hide hkf
  have HKZ := hide hkz
  have t1 : ∀ w, (Instr.typeAssert (.iface 202 (.agg #[.slice ak ks.length ck, .slice a is.length cap])) 104 200 true).run Tryz.prog w = .ok (.tuple #[.slice none 0 0, .bool false]) w := fun _ => by kernel_rfl
  have t2 : ∀ w, (Instr.typeAssert (.iface 202 (.agg #[.slice ak ks.length ck, .slice a is.length cap])) 104 202 true).run Tryz.prog w = .ok (.tuple #[.agg #[.slice ak ks.length ck, .slice a is.length cap], .bool true]) w := fun _ => by kernel_rfl
  have HPS : Hid (pbl (.entries ks is) = (ks.zip is).flatMap fun x => [.text x.1, prt x.2]) := rfl
  generalize pbl (.entries ks is) = ps at *
  have HPL : Hid (ps.length = 2 * is.length) := by show _ = _; rw [HPS.out, pairs_len, List.length_zip]; omega
  have HKL := hide hkl
  have hkk : ks.length ≤ 100000000 := by omega
  have hb0 := row_mk7 w #[.slice none 0 0, .slice none 0 0] #[.slice ak ks.length ck, .slice a is.length cap] 202
  have HN0 := hide (heap_alloc_new w (.cells #[.slice none 0 0, .slice none 0 0] 202))
  have HBZ := hide hb0.1
  have HG0 := hide hb0.2
  have HIE : Hid ((Tryz.prog.info? 202).map (·.size) = some (#[.slice ak ks.length ck, .slice a is.length cap] : Array Value).size) := by show _ = _; kernel_rfl
  have HAE : Hid ((#[.slice ak ks.length ck, .slice a is.length cap] : Array Value).all (·.oneCell') = true) := by
    show _ = _
    rw [Array.all_eq_true']
    intro u hu
    simp only [List.mem_toArray, List.mem_cons, List.not_mem_nil, or_false] at hu
    rcases hu with rfl | rfl <;> rfl
  clear hS hcc hmx hks hkc hkf hkm hkz hkl hil hb0
  go_enter Tryz.func116, Tryz.ntmps116
  go_upto_region 12 with (refine wpList_storeRow rfl rfl w.heap.size #[.slice none 0 0, .slice none 0 0] #[.slice ak ks.length ck, .slice a is.length cap] 202 rfl rfl HN0.out HIE.out rfl HAE.out ?_)
  (try simp only [Act.put]); (try simp only [List.setIfInBounds_toArray, List.set_cons_zero, List.set_cons_succ])
  generalize (w.alloc (.cells #[.slice none 0 0, .slice none 0 0] 202)).setRow w.heap.size #[.slice ak ks.length ck, .slice a is.length cap] = w0 at *
  have HB0 : Hid (Bl7 w w0 S ps 0 (.slice none 0 0) []) := ⟨HBZ.out, World.ownsRow_nil _ _ _ _, fun i p v hi => by omega⟩
  have q0 : w0.cell? ⟨w.heap.size, 0, none⟩ = some (.slice ak ks.length ck) := blk_cell (j := 0) HG0.out rfl
  clear t1 t2 HN0
  go_wp2_with fail
  clear q0
  go_loopw [3, 32] (fun vp kk wx => ∃ (k : Nat) (vs : List Value), k ≤ ks.length ∧ kk = .int .i64 (k : Nat) ∧ Hid (Bl7 w wx S ps (2 * k) vp vs ∧ wx.heap[w.heap.size]? = some (.cells #[.slice ak ks.length ck, .slice a is.length cap] 202 (0, 0)))) (fun _ kk _ => ks.length - (intOf kk).toNat)
  case atStart => exact ⟨0, [], by omega, rfl, hide ⟨HB0.out, HG0.out⟩⟩
  case round =>
    rename World => wx
    obtain ⟨k, vs, hk, rfl, HX⟩ := hrel
    clear HB0 HG0 HBZ
    by_cases hlt : k < ks.length
    · as_aux_lemma =>
      have g1 : (k : Int) < (ks.length : Int) := by omega
      have hil : k < is.length := by have := HKL.out; omega
      have g2 : (k : Int) < (is.length : Int) := by omega
      obtain ⟨⟨a', cap', cs, hva, -, hts, hform⟩, -⟩ := HV.out
      injection hva with e1 e2 e3
      subst e1
      obtain ⟨b, off, ha, hnb, hcell⟩ := hform.resolve_left (fun e => by rw [e] at hil; simp at hil)
      subst ha
      obtain ⟨bk, offk, hak, hkc⟩ := HKF.out.resolve_left (fun e => by rw [e] at hlt; simp at hlt)
      subst hak
      have hti := hts k _ (List.getElem?_eq_getElem hil)
      have HSZ := hide hti.tin.size13
      have HCC : Hid (∀ j u, (cs k)[j]? = some u → wx.cell? ⟨b, off + k * 13 + j, none⟩ = some u) := fun j u hu => keep_below HX.out.1.b _ _ (hcell k hil j u hu)
      have ck0 : wx.cell? ⟨bk, offk + k, none⟩ = some (.string ks[k]) := keep_below HX.out.1.b _ _ (hkc k _ (List.getElem?_eq_getElem hlt))
      have qx : wx.cell? ⟨w.heap.size, 1, none⟩ = some (.slice (some ⟨b, off, none⟩) is.length cap) := blk_cell (j := 1) HX.out.2 rfl
      have HTI : Hid (Tis w S (is[k]) (cs k)) := hti
      have hz : (ks.zip is)[k]? = some (ks[k], is[k]) := by rw [List.getElem?_zip_eq_some]; exact ⟨List.getElem?_eq_getElem hlt, List.getElem?_eq_getElem hil⟩
      have HPK : Hid (ps[2 * k]? = some (.text ks[k]) ∧ ps[2 * k + 1]? = some (prt is[k])) := by
        have h := pairs_get (fun x : ByteArray × Tv => Prt.text x.1) (fun x => prt x.2) (ks.zip is) k
        rw [hz] at h
        show _ ∧ _
        rw [HPS.out]
        exact h
      have HSK := hide (HKZ.out _ (List.getElem_mem hlt))
      generalize ks[k] = key at *
      generalize is[k] = tk at *
      generalize cs k = cc at *
      have HLT := hide hlt
      obtain ⟨av, cv, hvv⟩ := own_slice7 HX.out.1.o
      subst hvv
      have hwx := HX.out.1.b
      have HTY : Hid (Tis wx (fun q => S q ∨ (Value.slice av (2 * k) cv).ownBlock = some q) tk cc) := tis_live7 HTI.out (Kp.of_below hwx) (fun q hq => by
        rcases hq with e | e
        · exact .inl e
        · exact .inr (HX.out.1.o.lt q e).1)
      have HPC := hide (partOf_any wx (fun q => S q ∨ (Value.slice av (2 * k) cv).ownBlock = some q) (fun q hq => by
        rcases hq with e | e
        · exact Nat.lt_of_lt_of_le (HSq.out q e) hwx.size
        · exact (HX.out.1.o.lt q e).2) tk cc HTY.out)
      clear hform hcell hts hti hnb e2 e3 hlt hil hkc hz hwx
      go_wp2_with (refine wpList_exec rfl (exec_valAt (g := b) (off := off + k * 13) (cs := cc) rfl rfl HSZ.out HCC.out) ?_)
      refine HPC.out.mono ?_
      rintro e w1 ⟨v1, rfl, hb1, hp1⟩
      obtain ⟨T1, x1, e1⟩ := pis_one hp1
      subst e1
      have hb2 := below_alloc4 w1 (.cells #[.iface 197 (.string key), .iface T1 x1] 104)
      have HX2 := hide ((HX.out.1.next hb1).next hb2)
      have HE2 : Hid ((w1.alloc (.cells #[.iface 197 (.string key), .iface T1 x1] 104)).heap[w.heap.size]? = some (.cells #[.slice (some ⟨bk, offk, none⟩) ks.length ck, .slice (some ⟨b, off, none⟩) is.length cap] 202 (0, 0))) := by
        have h3 := (hb1.block _ (blk_lt HX.out.2)).trans HX.out.2
        exact (hb2.block _ (blk_lt h3)).trans h3
      have HP2 := hide (hp1.live (Kp.of_below hb2) (fun _ hq => .inl hq))
      have HG2 := hide (heap_alloc_new w1 (.cells #[.iface 197 (.string key), .iface T1 x1] 104))
      have HBz : Hid (w.heap.size ≤ (w1.alloc (.cells #[.iface 197 (.string key), .iface T1 x1] 104)).heap.size) := HX2.out.b.size
      clear hb1 hp1 hb2 HPC HTY ck0 qx
      go_wp2_with (at_builtin; refine append_parts rfl _ _ rfl w.heap.size _ (2 * k) vs rfl HX2.out.o w1.heap.size 2 [.iface 197 (.string key), .iface T1 x1] rfl rfl HG2.out (fun u hu => by simp at hu; rcases hu with e | e <;> (rw [e]; rfl)) (by omega) HBz.out ?_)
      intro v3 w3 h1 h2 h3
      have HX3 : Hid (Bl7 w w3 S ps (2 * (k + 1)) v3 (vs ++ [.iface 197 (.string key), .iface T1 x1])) := HX2.out.add (m := 2) (us := [.iface 197 (.string key), .iface T1 x1]) h1 h2 h3 (fun i p v hp hv => by
        match i, hp, hv with
        | 0, hp, hv =>
          rw [Nat.add_zero, HPK.out.1] at hp
          injection hp with hp
          subst hp
          have e5 : v = .iface 197 (.string key) := by simpa using hv.symm
          rw [e5]
          exact ⟨rfl, HSK.out⟩
        | 1, hp, hv =>
          rw [HPK.out.2] at hp
          injection hp with hp
          subst hp
          have e5 : v = .iface T1 x1 := by simpa using hv.symm
          rw [e5]
          exact HP2.out
        | i + 2, hp, hv => simp at hv)
      have HE3 : Hid (w3.heap[w.heap.size]? = some (.cells #[.slice (some ⟨bk, offk, none⟩) ks.length ck, .slice (some ⟨b, off, none⟩) is.length cap] 202 (0, 0))) := ((kp_grown h2).block _ (blk_lt HE2.out) (own_not HX2.out.o HE2.out (by decide))).trans HE2.out
      obtain ⟨a3, c3, hv3⟩ := own_slice7 HX3.out.o
      subst hv3
      clear h1 h2 h3 HX2 HP2 HG2 HBz HE2 HX HCC
      go_wp2_with fail
      go_roundw
      case rel => exact ⟨k + 1, _, by have := HLT.out; omega, by go_num, hide ⟨HX3.out, HE3.out⟩⟩
      case measure => have := HLT.out; simp [intOf]; omega
    · as_aux_lemma =>
      have g1 : ¬ (k : Int) < (ks.length : Int) := by omega
      have HF : Hid (BelP w S ps (.returned u3) wx) := HX.out.1.out (by rw [HPL.out]; have := HKL.out; omega)
      clear hlt
      go_wp2_with fail
      go_ret
      exact HF.out
end
section
open Go.RowKit Go
/-! ### A part with those below it -/
def pm : Prt → Nat
  | .list is => tmuchL is + 1
  | .entries _ is => tmuchL is + 1
  | _ => 0
def Pok : Prt → Prop
  | .list is => ∀ u ∈ is, Ptr u
  | .entries ks is => ks.length = is.length ∧ ∀ u ∈ is, Ptr u
  | _ => True
theorem pok_prt {t : Tv} (h : Ptr t) : Pok (prt t) := by
  cases h with
  | mk _ hk h7 h9 hi =>
    unfold prt
    repeat' split
    all_goals first | exact trivial | exact hi | (rename_i h; exact ⟨h9 h, hi⟩) | (rename_i h _; exact ⟨h9 h, hi⟩)
theorem pm_prt (t : Tv) : pm (prt t) ≤ tmuch t := by
  obtain ⟨k, f, g, n, b, s, y, l, ks, is⟩ := t
  unfold prt tmuch
  simp only [Tv.is, Tv.ks]
  repeat' split
  all_goals first | (show (0 : Nat) ≤ _; omega) | (show tmuchL is + 1 ≤ _; omega)
theorem tmuch_mem : ∀ {is : List Tv} {u : Tv}, u ∈ is → tmuch u ≤ tmuchL is
  | [], _, h => by cases h
  | t :: r, u, h => by
    rw [tmuchL]
    rcases List.mem_cons.1 h with e | e
    · rw [e]; omega
    · have := tmuch_mem e
      omega
theorem pm_item {is : List Tv} {u : Tv} (h : u ∈ is) : pm (prt u) < tmuchL is + 1 := Nat.lt_succ_of_le (Nat.le_trans (pm_prt u) (tmuch_mem h))
theorem pbl_ok {p q : Prt} (h : Pok p) (hq : q ∈ pbl p) : Pok q ∧ pm q < pm p := by
  cases p with
  | list is =>
    obtain ⟨u, hu, e⟩ := List.mem_map.1 hq
    subst e
    exact ⟨pok_prt (h u hu), pm_item hu⟩
  | entries ks is =>
    obtain ⟨x, hx, hq⟩ := List.mem_flatMap.1 hq
    have hx2 := (List.of_mem_zip hx).2
    rcases List.mem_cons.1 hq with e | e
    · subst e
      exact ⟨trivial, Nat.lt_of_le_of_lt (Nat.zero_le _) (pm_item hx2)⟩
    · simp only [List.mem_singleton] at e
      subst e
      exact ⟨pok_prt (h.2 _ hx2), pm_item hx2⟩
  | null => cases hq
  | truth b => cases hq
  | whole g n => cases hq
  | float b => cases hq
  | text s => cases hq
  | octets y => cases hq
  | name y => cases hq
theorem tfmL_flat : ∀ {is : List Tv}, (∀ u ∈ is, Ptr u) → tfmL is = ((is.map prt).map pall).flatten
  | [], _ => by rw [tfmL]; rfl
  | t :: r, h => by
    rw [tfmL, tfmL_flat (fun u hu => h u (List.mem_cons_of_mem _ hu)), ← pall_prt (h t (List.mem_cons_self ..))]
    rfl
theorem tfmK_flat : ∀ {ks : List ByteArray} {is : List Tv}, ks.length = is.length → (∀ u ∈ is, Ptr u) → tfmK ks is = (((ks.zip is).flatMap fun x => [Prt.text x.1, prt x.2]).map pall).flatten
  | [], [], _, _ => by rw [tfmK]; rfl
  | k :: ks, t :: r, hl, h => by
    rw [tfmK, tfmK_flat (by simpa using hl) (fun u hu => h u (List.mem_cons_of_mem _ hu)), ← pall_prt (h t (List.mem_cons_self ..))]
    simp [pall, pfm]
  | [], t :: r, hl, _ => by simp at hl
  | k :: ks, [], hl, _ => by simp at hl
theorem pall_split {p : Prt} (h : Pok p) : pall p = pfm p ++ ((pbl p).map pall).flatten := by
  cases p with
  | list is =>
    show hl 4 is.length ++ tfmL is = hl 4 is.length ++ _
    rw [tfmL_flat h]
    rfl
  | entries ks is =>
    show hl 5 ks.length ++ tfmK ks is = hl 5 ks.length ++ _
    rw [tfmK_flat h.1 h.2]
    rfl
  | null => rfl
  | truth b => rfl
  | whole g n => simp [pall, pbl]
  | float b => simp [pall, pbl]
  | text s => simp [pall, pbl]
  | octets y => simp [pall, pbl]
  | name y => simp [pall, pbl]
theorem pall_pos (p : Prt) : 0 < (pall p).length := by
  cases p with
  | list is => show 0 < (hl 4 is.length ++ tfmL is).length; rw [List.length_append, hl_len7]; unfold hsize; omega
  | entries ks is => show 0 < (hl 5 ks.length ++ tfmK ks is).length; rw [List.length_append, hl_len7]; unfold hsize; omega
  | null => exact Nat.one_pos
  | truth b => exact Nat.one_pos
  | whole g n => show 0 < (hl _ n).length; rw [hl_len7]; unfold hsize; omega
  | float b => show 0 < (251 :: be 8 b).length; simp
  | text s => show 0 < (kfm s).length; unfold kfm; rw [List.length_append, hl_len7]; unfold hsize; omega
  | octets y => show 0 < (hl 2 y.length ++ y).length; rw [List.length_append, hl_len7]; unfold hsize; omega
  | name y => show 0 < (hl 6 42 ++ (hl 2 y.length ++ y)).length; rw [List.length_append, hl_len7]; unfold hsize; omega
theorem flat_len7 : ∀ (l : List Prt), l.length ≤ ((l.map pall).flatten).length
  | [] => Nat.le_refl _
  | p :: r => by
    have h1 := pall_pos p
    have h2 := flat_len7 r
    simp only [List.map_cons, List.flatten_cons, List.length_append, List.length_cons]
    omega
/-- below, of any part. -/
theorem below_any (w : World) (S : Nat → Prop) (hS : ∀ q, S q → q < w.heap.size) (p : Prt) (v : Value) (hp : Pis w S p v) (hok : Pok p) (hl : (pall p).length ≤ 100000000) : Calls Tryz.prog 116 #[v] w (BelP w S (pbl p)) := by
  have h1 := pall_split hok
  have h2 := flat_len7 (pbl p)
  have h3 : (pbl p).length ≤ 100000000 := by
    rw [h1, List.length_append] at hl
    omega
  cases p with
  | list is => exact below_list w S hS is v hp (by have h4 : (is.map prt).length ≤ 100000000 := h3; rw [List.length_map] at h4; exact h4)
  | entries ks is =>
    have h4 : ((ks.zip is).flatMap fun x => [Prt.text x.1, prt x.2]).length ≤ 100000000 := h3
    rw [pairs_len, List.length_zip, hok.1, Nat.min_self] at h4
    exact below_entries w S hS ks is v hp (by omega) hok.1
  | null => exact below_none w S _ v hp (fun _ h => by cases h) (fun _ _ h => by cases h)
  | truth b => exact below_none w S _ v hp (fun _ h => by cases h) (fun _ _ h => by cases h)
  | whole g n => exact below_none w S _ v hp (fun _ h => by cases h) (fun _ _ h => by cases h)
  | float b => exact below_none w S _ v hp (fun _ h => by cases h) (fun _ _ h => by cases h)
  | text s => exact below_none w S _ v hp (fun _ h => by cases h) (fun _ _ h => by cases h)
  | octets y => exact below_none w S _ v hp (fun _ h => by cases h) (fun _ _ h => by cases h)
  | name y => exact below_none w S _ v hp (fun _ h => by cases h) (fun _ _ h => by cases h)
end
section
open Go.RowKit Go
def SizC (p : Prt) : Prop := ∀ (w : World) (S : Nat → Prop) (v : Value), (∀ q, S q → q < w.heap.size) → Pis w S p v → Pok p → (pall p).length ≤ 100000000 → Calls Tryz.prog 73 #[v] w fun e w' => e = .returned (.int .i64 ((pall p).length : Nat)) ∧ Below w.heap.size w w'
theorem pall_take {p : Prt} {k : Nat} {q : Prt} (h : (pbl p)[k]? = some q) : (((pbl p).take (k + 1)).map pall).flatten = (((pbl p).take k).map pall).flatten ++ pall q := by
  obtain ⟨hk, e⟩ := List.getElem?_eq_some_iff.1 h
  rw [List.take_succ_eq_append_getElem hk, e]
  simp
set_option maxRecDepth 1000000 in
set_option maxHeartbeats 4000000 in
theorem size_step (p : Prt) (ih : ∀ q, pm q < pm p → SizC q) : SizC p := by
  intro w S v hS hp hok hl
  have HIH := hide ih
  have HSq := hide hS
  have HP := hide hp
  have HOK := hide hok
  have HL := hide hl
  have HSP := hide (pall_split hok)
  have HPZ := hide (psz_len p)
  obtain ⟨T0, x0, e0⟩ := pis_one hp
  subst e0
  clear ih hS hp hok hl
  go_enter Tryz.func73, Tryz.ntmps73
  go_upto_region 1 with fail
  go_cut [3] from 6 to 8 (fun vv wx => vv = .int .i64 (psz p : Nat) ∧ Hid (Below w.heap.size w wx))
  case first =>
    clear HIH HOK HL HSP HPZ HSq
    cases p with
    | null => as_aux_lemma =>
      have e : Value.iface T0 x0 = .iface 204 (.agg #[]) := HP.out
      injection e with e1 e2
      subst e1
      subst e2
      have hm : ∀ w, (method 402 204 (.agg #[]) "trellis/lay.size").run Tryz.prog w = .ok (229, .agg #[]) w := fun _ => by kernel_rfl
      go_wp2_with fail
      refine (nullSize_any _).mono ?_
      rintro e w1 ⟨rfl, hb1⟩
      have HBB : Hid (Below w.heap.size w w1) := hb1
      clear hb1 hm
      go_wp2_with fail
      go_meet
      case rel => exact ⟨rfl, HBB⟩
    | truth b => as_aux_lemma =>
      have e : Value.iface T0 x0 = .iface 193 (.bool b) := HP.out
      injection e with e1 e2
      subst e1
      subst e2
      have hm : ∀ w, (method 402 193 (.bool b) "trellis/lay.size").run Tryz.prog w = .ok (212, .bool b) w := fun _ => by kernel_rfl
      go_wp2_with fail
      refine (truthSize_any b _).mono ?_
      rintro e w1 ⟨rfl, hb1⟩
      have HBB : Hid (Below w.heap.size w w1) := hb1
      clear hb1 hm
      go_wp2_with fail
      go_meet
      case rel => exact ⟨rfl, HBB⟩
    | whole g n => as_aux_lemma =>
      have e : Value.iface T0 x0 = .iface 195 (.agg #[.bool g, .int .u64 (n : Nat)]) := HP.out.1
      injection e with e1 e2
      subst e1
      subst e2
      have hm : ∀ w, (method 402 195 (.agg #[.bool g, .int .u64 (n : Nat)]) "trellis/lay.size").run Tryz.prog w = .ok (214, .agg #[.bool g, .int .u64 (n : Nat)]) w := fun _ => by kernel_rfl
      go_wp2_with fail
      refine (wholeSize_any g n HP.out.2 _).mono ?_
      rintro e w1 ⟨rfl, hb1⟩
      have HBB : Hid (Below w.heap.size w w1) := hb1
      clear hb1 hm
      go_wp2_with fail
      go_meet
      case rel => exact ⟨rfl, HBB⟩
    | float b => as_aux_lemma =>
      have e : Value.iface T0 x0 = .iface 196 (.int .u64 (b : Nat)) := HP.out.1
      injection e with e1 e2
      subst e1
      subst e2
      have hm : ∀ w, (method 402 196 (.int .u64 (b : Nat)) "trellis/lay.size").run Tryz.prog w = .ok (218, .int .u64 (b : Nat)) w := fun _ => by kernel_rfl
      go_wp2_with fail
      refine (floatSize_any b _).mono ?_
      rintro e w1 ⟨rfl, hb1⟩
      have HBB : Hid (Below w.heap.size w w1) := hb1
      clear hb1 hm
      go_wp2_with fail
      go_meet
      case rel => exact ⟨rfl, HBB⟩
    | text s => as_aux_lemma =>
      have e : Value.iface T0 x0 = .iface 197 (.string s) := HP.out.1
      injection e with e1 e2
      subst e1
      subst e2
      have hm : ∀ w, (method 402 197 (.string s) "trellis/lay.size").run Tryz.prog w = .ok (220, .string s) w := fun _ => by kernel_rfl
      go_wp2_with fail
      refine (textSize_any s HP.out.2 _).mono ?_
      rintro e w1 ⟨rfl, hb1⟩
      have HBB : Hid (Below w.heap.size w w1) := hb1
      clear hb1 hm
      go_wp2_with fail
      go_meet
      case rel => exact ⟨rfl, HBB⟩
    | octets y => as_aux_lemma =>
      obtain ⟨vb, e, hb, -, hyl⟩ := HP.out
      injection e with e1 e2
      obtain ⟨⟨a, c, hv, _, _⟩, _, _⟩ := hb
      subst hv
      subst e1
      subst e2
      have HOC : Hid (y.length ≤ 140737488351232) := hyl
      clear hyl
      have hm : ∀ w, (method 402 198 (.slice a y.length c) "trellis/lay.size").run Tryz.prog w = .ok (223, .slice a y.length c) w := fun _ => by kernel_rfl
      go_wp2_with fail
      refine (octetsSize_any a y.length c HOC.out _).mono ?_
      rintro e w1 ⟨rfl, hb1⟩
      have HBB : Hid (Below w.heap.size w w1) := by rw [hb1]; exact Below.refl _ _
      clear hb1 hm
      go_wp2_with fail
      go_meet
      case rel => exact ⟨rfl, HBB⟩
    | name y => as_aux_lemma =>
      obtain ⟨vb, e, hb, -, -, hyl⟩ := HP.out
      injection e with e1 e2
      obtain ⟨⟨a, c, hv, _, _⟩, _, _⟩ := hb
      subst hv
      subst e1
      subst e2
      have HOC : Hid (y.length ≤ 140737488351232) := by show _ ≤ _; omega
      clear hyl
      have hm : ∀ w, (method 402 226 (.agg #[.slice a y.length c]) "trellis/lay.size").run Tryz.prog w = .ok (231, .agg #[.slice a y.length c]) w := fun _ => by kernel_rfl
      go_wp2_with fail
      refine (nameSize_any a y.length c HOC.out _).mono ?_
      rintro e w1 ⟨rfl, hb1⟩
      have HBB : Hid (Below w.heap.size w w1) := hb1
      clear hb1 hm
      go_wp2_with fail
      go_meet
      case rel => exact ⟨rfl, HBB⟩
    | list is => as_aux_lemma =>
      obtain ⟨vi, e, hvi⟩ := HP.out
      injection e with e1 e2
      have HOC : Hid (is.length ≤ 140737488351232) := hvi.max
      obtain ⟨⟨a, c, cx, hv, -, -, -⟩, -⟩ := hvi
      subst hv
      subst e1
      subst e2
      have hm : ∀ w, (method 402 200 (.slice a is.length c) "trellis/lay.size").run Tryz.prog w = .ok (225, .slice a is.length c) w := fun _ => by kernel_rfl
      go_wp2_with fail
      refine (listSize_any a is.length c HOC.out _).mono ?_
      rintro e w1 ⟨rfl, hb1⟩
      have HBB : Hid (Below w.heap.size w w1) := hb1
      clear hb1 hm
      go_wp2_with fail
      go_meet
      case rel => exact ⟨rfl, HBB⟩
    | entries ks is => as_aux_lemma =>
      obtain ⟨vk, vi, e, hk, -, -⟩ := HP.out
      injection e with e1 e2
      have HOC : Hid (ks.length ≤ 140737488351232) := hk.max
      obtain ⟨⟨a, c, hv, _, _⟩, _, _⟩ := hk
      subst hv
      subst e1
      subst e2
      have hm : ∀ w, (method 402 202 (.agg #[.slice a ks.length c, vi]) "trellis/lay.size").run Tryz.prog w = .ok (227, .agg #[.slice a ks.length c, vi]) w := fun _ => by kernel_rfl
      go_wp2_with fail
      refine (entriesSize_any a ks.length c vi HOC.out _).mono ?_
      rintro e w1 ⟨rfl, hb1⟩
      have HBB : Hid (Below w.heap.size w w1) := hb1
      clear hb1 hm
      go_wp2_with fail
      go_meet
      case rel => exact ⟨rfl, HBB⟩
  obtain ⟨rfl, HB1⟩ := hcut
  have HP1 := hide (HP.out.live (Kp.of_below HB1.out) (fun _ hq => .inl hq))
  have HBC := hide (below_any wc S (fun q hq => Nat.lt_of_lt_of_le (HSq.out q hq) HB1.out.size) p _ HP1.out HOK.out HL.out)
  go_wp2_with fail
  refine HBC.out.mono ?_
  rintro e w2 ⟨vp, vs, rfl, hb2, ho2, hp2⟩
  have HB2 : Hid (Below w.heap.size w w2) := HB1.out.trans (hb2.mono HB1.out.size)
  obtain ⟨av, cv, hvv⟩ := own_slice7 ho2
  subst hvv
  have HO2 := hide ho2
  have HP2 := hide hp2
  have HPB : Hid (∀ k q, (pbl p)[k]? = some q → Pok q ∧ pm q < pm p) := fun k q hq => pbl_ok HOK.out (List.mem_of_getElem? hq)
  have HTK : Hid (∀ k q, (pbl p)[k]? = some q → (((pbl p).take (k + 1)).map pall).flatten = (((pbl p).take k).map pall).flatten ++ pall q) := fun k q hq => pall_take hq
  have HLE : Hid (∀ k, psz p + (((pbl p).take k).map pall).flatten.length ≤ (pall p).length) := fun k => by
    have h1 := HSP.out
    have h2 : (((pbl p).take k).map pall).flatten.length ≤ ((pbl p).map pall).flatten.length := by
      have e : (pbl p).map pall = ((pbl p).take k).map pall ++ ((pbl p).drop k).map pall := by rw [← List.map_append, List.take_append_drop]
      rw [e, List.flatten_append, List.length_append]
      omega
    rw [h1, List.length_append, HPZ.out]
    omega
  have HFN : Hid (psz p + (((pbl p).take (pbl p).length).map pall).flatten.length = (pall p).length) := by
    show _ = _
    rw [List.take_length, HSP.out, List.length_append, HPZ.out]
  have HPL : Hid ((pbl p).length ≤ 100000000) := by
    have h1 := flat_len7 (pbl p)
    have h2 := HL.out
    have h3 := HSP.out
    show _ ≤ _
    rw [h3, List.length_append] at h2
    omega
  generalize pbl p = ps at *
  have hpl := HPL.out
  clear hb2 ho2 hp2 HBC HP HP1 HB1
  go_wp2_with fail
  go_loopw [3, 11] (fun nn kk wx => ∃ (k : Nat) (m : Nat), k ≤ ps.length ∧ kk = .int .i64 (k : Nat) ∧ nn = .int .i64 (m : Nat) ∧ Hid (m = psz p + ((ps.take k).map pall).flatten.length) ∧ Hid (Below w2.heap.size w2 wx)) (fun _ kk _ => ps.length - (intOf kk).toNat)
  case atStart => exact ⟨0, psz p, by omega, rfl, rfl, hide (by simp), hide (Below.refl _ _)⟩
  case round =>
    rename World => wx
    obtain ⟨k, m, hk, rfl, rfl, HM, HBX⟩ := hrel
    by_cases hlt : k < ps.length
    · as_aux_lemma =>
      have g1 : (k : Int) < (ps.length : Int) := by omega
      have hvl : vs.length = ps.length := by have := HO2.out.1; omega
      obtain ⟨g, hag⟩ : ∃ g, av = some ⟨g, 0, none⟩ := by
        rcases HO2.out.2 with ⟨_, h1⟩ | ⟨g', c', cur, e, _⟩
        · omega
        · injection e with e1 _ _
          exact ⟨g', e1⟩
      subst hag
      have hvk : vs[k]? = some vs[k] := List.getElem?_eq_getElem (by omega)
      have hpk : ps[k]? = some ps[k] := List.getElem?_eq_getElem hlt
      have ck : wx.cell? ⟨g, k, none⟩ = some vs[k] := by
        have h := HO2.out.cells (g := g) rfl k _ hvk
        rw [addr_add, Nat.zero_add] at h
        exact keep_below HBX.out _ _ h
      obtain ⟨hok, hpm⟩ := HPB.out k _ hpk
      have hpis := (HP2.out k _ _ hpk hvk).live (Kp.of_below HBX.out) (fun _ hq => .inl hq)
      have htk := HTK.out k _ hpk
      have hle := HLE.out (k + 1)
      rw [htk, List.length_append] at hle
      have hll := HL.out
      have HQC := hide (HIH.out _ hpm wx S _ (fun q hq => Nat.lt_of_lt_of_le (HSq.out q hq) (Nat.le_trans HB2.out.size HBX.out.size)) hpis hok (by omega))
      have hmm : m + (pall ps[k]).length ≤ 100000000 := by have := HM.out; omega
      have HM2 : Hid (m + (pall ps[k]).length = psz p + ((ps.take (k + 1)).map pall).flatten.length) := by show _ = _; rw [htk, List.length_append, HM.out]; omega
      obtain ⟨T1, x1, e1⟩ := pis_one hpis
      rw [e1] at ck HQC
      generalize (pall ps[k]).length = z at *
      have e3 : IntKind.i64.wrap ((m : Int) + (z : Int)) = ((m + z : Nat) : Int) := by rw [IntKind.wrap_i64]; omega
      have HLT := hide hlt
      clear hok hpm hpis htk hle hll hvk hpk hvl hlt hmm e1
      go_wp2_with fail
      refine HQC.out.mono ?_
      rintro e w3 ⟨rfl, hb3⟩
      have HB3 : Hid (Below w2.heap.size w2 w3) := HBX.out.trans (hb3.mono HBX.out.size)
      clear hb3 ck HQC
      go_wp2_with fail
      go_roundw
      case rel => exact ⟨k + 1, m + z, by have := HLT.out; omega, by go_num, by go_num, HM2, HB3⟩
      case measure => have := HLT.out; simp [intOf]; omega
    · as_aux_lemma =>
      have g1 : ¬ (k : Int) < (ps.length : Int) := by omega
      have HE : Hid (m = (pall p).length) := by
        show _ = _
        rw [HM.out, ← HFN.out, show k = ps.length by omega]
      have HBF : Hid (Below w.heap.size w wx) := HB2.out.trans (HBX.out.mono HB2.out.size)
      clear hlt
      go_wp2_with fail
      go_ret
      exact ⟨by rw [HE.out]; rfl, HBF.out⟩
theorem size7_any (p : Prt) : SizC p := by
  have key : ∀ N p, pm p < N → SizC p := by
    intro N
    induction N with
    | zero => intro p h; omega
    | succ N ih => intro p h; exact size_step p (fun q hq => ih q (by omega))
  exact key _ p (Nat.lt_succ_self _)
end
section
open Go.RowKit Go
def LaiC (p : Prt) : Prop := ∀ (w : World) (B : Nat) (v : Value) (n : Nat) (ds : List Nat) (vp : Value), w.ownsRow B 5 1 v n (bv ds) → v ≠ .slice none 0 0 → B ≤ w.heap.size → Pis w (fun q => v.ownBlock = some q) p vp → Pok p → n + (pall p).length ≤ 140737488340000 → (pall p).length ≤ 100000000 → Calls Tryz.prog 74 #[v, vp] w (LayP w B v n ds (pall p))
set_option maxRecDepth 1000000 in
set_option maxHeartbeats 4000000 in
theorem laid_step (p : Prt) (ih : ∀ q, pm q < pm p → LaiC q) : LaiC p := by
  intro w B v n ds vp hown hnn hB hp hok hlx hl
  have HIH := hide ih
  have HO := hide hown
  have HNN := hide hnn
  have HBq := hide hB
  have HP := hide hp
  have HOK := hide hok
  have HLX0 := hide hlx
  have HL := hide hl
  have HSP := hide (pall_split hok)
  have HPZ := hide (psz_len p)
  have HLX : Hid (n + (pfm p).length ≤ 140737488340000) := by
    have h1 := HSP.out
    rw [h1, List.length_append] at hlx
    show _ ≤ _
    omega
  have HNq : Hid (n ≤ 140737488350000) := by show _ ≤ _; omega
  obtain ⟨T0, x0, e0⟩ := pis_one hp
  subst e0
  obtain ⟨a, c, hv⟩ := own_slice7 hown
  subst hv
  clear ih hown hnn hB hp hok hlx hl
  go_enter Tryz.func74, Tryz.ntmps74
  go_upto_region 1 with fail
  go_cut [0] from 7 to 10 (fun vv wx => Hid (LayP w B (.slice a n c) n ds (pfm p) (.returned vv) wx))
  case first =>
    clear HIH HOK HL HSP HPZ HLX0
    cases p with
    | null => as_aux_lemma =>
      have e : Value.iface T0 x0 = .iface 204 (.agg #[]) := HP.out
      injection e with e1 e2
      subst e1
      subst e2
      have hm : ∀ w, (method 402 204 (.agg #[]) "trellis/lay.lay").run Tryz.prog w = .ok (228, .agg #[]) w := fun _ => by kernel_rfl
      have HCC := hide (nullLay_any w B _ n ds HO.out HNN.out HBq.out HNq.out)
      go_wp2_with fail
      refine HCC.out.mono ?_
      rintro e w1 ⟨v1, rfl, h1, h2, h3, h4⟩
      have HL1 : Hid (LayP w B (.slice a n c) n ds [246] (.returned v1) w1) := ⟨v1, rfl, h1, h2, h3, h4⟩
      clear h1 h2 h3 h4 hm HCC
      go_wp2_with fail
      go_meet
      case rel => exact HL1
    | truth b => as_aux_lemma =>
      have e : Value.iface T0 x0 = .iface 193 (.bool b) := HP.out
      injection e with e1 e2
      subst e1
      subst e2
      have hm : ∀ w, (method 402 193 (.bool b) "trellis/lay.lay").run Tryz.prog w = .ok (211, .bool b) w := fun _ => by kernel_rfl
      have HCC : Hid (Calls Tryz.prog 211 #[.bool b, .slice a n c] w (LayP w B (.slice a n c) n ds [if b = true then 245 else 244])) := by
        cases b with
        | true => exact trueLay_any w B _ n ds HO.out HNN.out HBq.out HNq.out
        | false => exact falseLay_any w B _ n ds HO.out HNN.out HBq.out HNq.out
      have HPF : Hid (pfm (.truth b) = [if b = true then 245 else 244]) := rfl
      generalize ([if b = true then 245 else 244] : List Nat) = F at *
      go_wp2_with fail
      refine HCC.out.mono ?_
      rintro e w1 ⟨v1, rfl, h1, h2, h3, h4⟩
      have HL1 : Hid (LayP w B (.slice a n c) n ds F (.returned v1) w1) := ⟨v1, rfl, h1, h2, h3, h4⟩
      have HL2 : Hid (LayP w B (.slice a n c) n ds (pfm (.truth b)) (.returned v1) w1) := by have h := HL1.out; rw [← HPF.out] at h; exact h
      clear h1 h2 h3 h4 hm HCC
      go_wp2_with fail
      go_meet
      case rel => exact HL2
    | whole g m => as_aux_lemma =>
      have e : Value.iface T0 x0 = .iface 195 (.agg #[.bool g, .int .u64 (m : Nat)]) := HP.out.1
      injection e with e1 e2
      subst e1
      subst e2
      have hm : ∀ w, (method 402 195 (.agg #[.bool g, .int .u64 (m : Nat)]) "trellis/lay.lay").run Tryz.prog w = .ok (213, .agg #[.bool g, .int .u64 (m : Nat)]) w := fun _ => by kernel_rfl
      have HCC := hide (wholeLay_any w B _ n ds HO.out HNN.out HBq.out HNq.out g m HP.out.2)
      go_wp2_with fail
      refine HCC.out.mono ?_
      rintro e w1 ⟨v1, rfl, h1, h2, h3, h4⟩
      have HL1 : Hid (LayP w B (.slice a n c) n ds (hl (if g = true then 1 else 0) m) (.returned v1) w1) := ⟨v1, rfl, h1, h2, h3, h4⟩
      clear h1 h2 h3 h4 hm HCC
      go_wp2_with fail
      go_meet
      case rel => exact HL1
    | float b => as_aux_lemma =>
      have e : Value.iface T0 x0 = .iface 196 (.int .u64 (b : Nat)) := HP.out.1
      injection e with e1 e2
      subst e1
      subst e2
      have hm : ∀ w, (method 402 196 (.int .u64 (b : Nat)) "trellis/lay.lay").run Tryz.prog w = .ok (217, .int .u64 (b : Nat)) w := fun _ => by kernel_rfl
      have HCC := hide (floatLay_any w B _ n ds HO.out HNN.out HBq.out HNq.out b HP.out.2)
      go_wp2_with fail
      refine HCC.out.mono ?_
      rintro e w1 ⟨v1, rfl, h1, h2, h3, h4⟩
      have HL1 : Hid (LayP w B (.slice a n c) n ds (251 :: be 8 b) (.returned v1) w1) := ⟨v1, rfl, h1, h2, h3, h4⟩
      clear h1 h2 h3 h4 hm HCC
      go_wp2_with fail
      go_meet
      case rel => exact HL1
    | text s => as_aux_lemma =>
      have e : Value.iface T0 x0 = .iface 197 (.string s) := HP.out.1
      injection e with e1 e2
      subst e1
      subst e2
      have HLQ : Hid (n + s.size ≤ 140737488350000) := by
        have h1 : n + (kfm s).length ≤ 140737488340000 := HLX.out
        unfold kfm at h1
        rw [List.length_append, sl_len7] at h1
        show _ ≤ _
        omega
      have hm : ∀ w, (method 402 197 (.string s) "trellis/lay.lay").run Tryz.prog w = .ok (219, .string s) w := fun _ => by kernel_rfl
      have HCC := hide (textLay_any w B _ n ds HO.out HNN.out HBq.out HNq.out s HLQ.out)
      go_wp2_with fail
      refine HCC.out.mono ?_
      rintro e w1 ⟨v1, rfl, h1, h2, h3, h4⟩
      have HL1 : Hid (LayP w B (.slice a n c) n ds (kfm s) (.returned v1) w1) := ⟨v1, rfl, h1, h2, h3, h4⟩
      clear h1 h2 h3 h4 hm HCC
      go_wp2_with fail
      go_meet
      case rel => exact HL1
    | octets y => as_aux_lemma =>
      obtain ⟨vb, e, hb, hbs, hyl⟩ := HP.out
      injection e with e1 e2
      have HYB := hide hb
      have HYV := hide hbs
      obtain ⟨⟨ay, cy, hv, _, _⟩, _, _⟩ := hb
      subst hv
      subst e1
      subst e2
      have HLQ : Hid (n + y.length ≤ 140737488350000) := by
        have h1 : n + (hl 2 y.length ++ y).length ≤ 140737488340000 := HLX.out
        rw [List.length_append] at h1
        show _ ≤ _
        omega
      clear hyl hbs
      have hm : ∀ w, (method 402 198 (.slice ay y.length cy) "trellis/lay.lay").run Tryz.prog w = .ok (222, .slice ay y.length cy) w := fun _ => by kernel_rfl
      have HCC := hide (octetsLay_any w B _ n ds HO.out HNN.out HBq.out HNq.out _ y HYB.out HYV.out HLQ.out)
      go_wp2_with fail
      refine HCC.out.mono ?_
      rintro e w1 ⟨v1, rfl, h1, h2, h3, h4⟩
      have HL1 : Hid (LayP w B (.slice a n c) n ds (hl 2 y.length ++ y) (.returned v1) w1) := ⟨v1, rfl, h1, h2, h3, h4⟩
      clear h1 h2 h3 h4 hm HCC
      go_wp2_with fail
      go_meet
      case rel => exact HL1
    | name y => as_aux_lemma =>
      obtain ⟨vb, e, hb, hy0, hbs, hyl⟩ := HP.out
      injection e with e1 e2
      have HYB := hide hb
      have HY0 := hide hy0
      have HYV := hide hbs
      obtain ⟨⟨ay, cy, hv, _, _⟩, _, _⟩ := hb
      subst hv
      subst e1
      subst e2
      have HLQ : Hid (n + 10 + y.length ≤ 140737488350000) := by
        have h1 : n + (hl 6 42 ++ (hl 2 y.length ++ y)).length ≤ 140737488340000 := HLX.out
        rw [List.length_append, List.length_append] at h1
        show _ ≤ _
        omega
      clear hyl hbs hy0
      have hm : ∀ w, (method 402 226 (.agg #[.slice ay y.length cy]) "trellis/lay.lay").run Tryz.prog w = .ok (230, .agg #[.slice ay y.length cy]) w := fun _ => by kernel_rfl
      have HCC := hide (nameLay_any w B _ n ds HO.out HNN.out HBq.out HNq.out _ y HYB.out HY0.out HYV.out HLQ.out)
      go_wp2_with fail
      refine HCC.out.mono ?_
      rintro e w1 ⟨v1, rfl, h1, h2, h3, h4⟩
      have HL1 : Hid (LayP w B (.slice a n c) n ds (hl 6 42 ++ (hl 2 y.length ++ y)) (.returned v1) w1) := ⟨v1, rfl, h1, h2, h3, h4⟩
      clear h1 h2 h3 h4 hm HCC
      go_wp2_with fail
      go_meet
      case rel => exact HL1
    | list is => as_aux_lemma =>
      obtain ⟨vi, e, hvi⟩ := HP.out
      injection e with e1 e2
      have HOC : Hid (is.length ≤ 140737488351232) := hvi.max
      obtain ⟨⟨ay, cy, cx, hv, -, -, -⟩, -⟩ := hvi
      subst hv
      subst e1
      subst e2
      have hm : ∀ w, (method 402 200 (.slice ay is.length cy) "trellis/lay.lay").run Tryz.prog w = .ok (224, .slice ay is.length cy) w := fun _ => by kernel_rfl
      have HCC := hide (listLay_any w B _ n ds HO.out HNN.out HBq.out HNq.out ay is.length cy HOC.out)
      go_wp2_with fail
      refine HCC.out.mono ?_
      rintro e w1 ⟨v1, rfl, h1, h2, h3, h4⟩
      have HL1 : Hid (LayP w B (.slice a n c) n ds (hl 4 is.length) (.returned v1) w1) := ⟨v1, rfl, h1, h2, h3, h4⟩
      clear h1 h2 h3 h4 hm HCC
      go_wp2_with fail
      go_meet
      case rel => exact HL1
    | entries ks is => as_aux_lemma =>
      obtain ⟨vk, vi, e, hk, -, -⟩ := HP.out
      injection e with e1 e2
      have HOC : Hid (ks.length ≤ 140737488351232) := hk.max
      obtain ⟨⟨ay, cy, hv, _, _⟩, _, _⟩ := hk
      subst hv
      subst e1
      subst e2
      have hm : ∀ w, (method 402 202 (.agg #[.slice ay ks.length cy, vi]) "trellis/lay.lay").run Tryz.prog w = .ok (226, .agg #[.slice ay ks.length cy, vi]) w := fun _ => by kernel_rfl
      have HCC := hide (entriesLay_any w B _ n ds HO.out HNN.out HBq.out HNq.out ay ks.length cy vi HOC.out)
      go_wp2_with fail
      refine HCC.out.mono ?_
      rintro e w1 ⟨v1, rfl, h1, h2, h3, h4⟩
      have HL1 : Hid (LayP w B (.slice a n c) n ds (hl 5 ks.length) (.returned v1) w1) := ⟨v1, rfl, h1, h2, h3, h4⟩
      clear h1 h2 h3 h4 hm HCC
      go_wp2_with fail
      go_meet
      case rel => exact HL1
  have HL1 := hcut
  clear hcut
  obtain ⟨o1, o2, o3, o4⟩ := HL1.out.out
  obtain ⟨a1, c1, hv1⟩ := own_slice7 o1
  subst hv1
  have HP1 : Hid (Pis wc (fun q => (Value.slice a1 (n + (pfm p).length) c1).ownBlock = some q) p (.iface T0 x0)) := HP.out.live o3 (fun q hq => by
    rcases o4 with e | e
    · exact .inl (e ▸ hq)
    · exact .inr (e q hq))
  have HBC := hide (below_any wc (fun q => (Value.slice a1 (n + (pfm p).length) c1).ownBlock = some q) (fun q hq => (o1.lt q hq).2) p _ HP1.out HOK.out HL.out)
  clear o1 o2 o3 o4
  go_wp2_with fail
  refine HBC.out.mono ?_
  rintro e w2 ⟨vp, vs, rfl, hb2, ho2, hp2⟩
  have HL2 : Hid (LayP w B (.slice a n c) n ds (pfm p) (.returned (.slice a1 (n + (pfm p).length) c1)) w2) := by
    obtain ⟨o1, o2, o3, o4⟩ := HL1.out.out
    exact ⟨_, rfl, (Kp.of_below (S := fun _ => False) hb2).owns o1 (fun _ _ h => h), o2, o3.trans (Kp.of_below (S := fun q => (Value.slice a n c).ownBlock = some q) hb2) (fun _ _ e => e), o4⟩
  obtain ⟨av, cv, hvv⟩ := own_slice7 ho2
  subst hvv
  have HR2 := hide ho2
  have HP2 := hide hp2
  have HWC : Hid (wc.heap.size ≤ w2.heap.size) := hb2.size
  have HPB : Hid (∀ k q, (pbl p)[k]? = some q → Pok q ∧ pm q < pm p) := fun k q hq => pbl_ok HOK.out (List.mem_of_getElem? hq)
  have HTK : Hid (∀ k q, (pbl p)[k]? = some q → (((pbl p).take (k + 1)).map pall).flatten = (((pbl p).take k).map pall).flatten ++ pall q) := fun k q hq => pall_take hq
  have HLE : Hid (∀ k, (pfm p).length + (((pbl p).take k).map pall).flatten.length ≤ (pall p).length) := fun k => by
    have h1 := HSP.out
    have h2 : (((pbl p).take k).map pall).flatten.length ≤ ((pbl p).map pall).flatten.length := by
      have e : (pbl p).map pall = ((pbl p).take k).map pall ++ ((pbl p).drop k).map pall := by rw [← List.map_append, List.take_append_drop]
      rw [e, List.flatten_append, List.length_append]
      omega
    rw [h1, List.length_append]
    omega
  have HFN : Hid (pfm p ++ (((pbl p).take (pbl p).length).map pall).flatten = pall p) := by
    show _ = _
    rw [List.take_length, HSP.out]
  have HPL : Hid ((pbl p).length ≤ 100000000) := by
    have h1 := flat_len7 (pbl p)
    have h2 := HL.out
    have h3 := HSP.out
    show _ ≤ _
    rw [h3, List.length_append] at h2
    omega
  generalize pbl p = ps at *
  have hpl := HPL.out
  clear hb2 ho2 hp2 HBC HP HP1 HL1
  go_wp2_with fail
  go_loopw [0, 13] (fun bb kk wx => ∃ (k : Nat) (L : List Nat), k ≤ ps.length ∧ kk = .int .i64 (k : Nat) ∧ Hid (L = pfm p ++ ((ps.take k).map pall).flatten) ∧ Hid (LayP w B (.slice a n c) n ds L (.returned bb) wx) ∧ Hid (wx.ownsRow wc.heap.size 104 1 (.slice av ps.length cv) ps.length vs ∧ ∀ (i : Nat) (q : Prt) (u : Value), k ≤ i → ps[i]? = some q → vs[i]? = some u → Pis wx (fun z => bb.ownBlock = some z) q u)) (fun _ kk _ => ps.length - (intOf kk).toNat)
  case atStart => exact ⟨0, pfm p, by omega, rfl, hide (by simp), HL2, hide ⟨HR2.out, fun i q u _ hq hu => HP2.out i q u hq hu⟩⟩
  case round =>
    rename World => wx
    obtain ⟨k, L, hk, rfl, HLL, HLY, HRP⟩ := hrel
    clear HL2 HR2 HP2
    by_cases hlt : k < ps.length
    · as_aux_lemma =>
      have g1 : (k : Int) < (ps.length : Int) := by omega
      have hvl : vs.length = ps.length := by have := HRP.out.1.1; omega
      obtain ⟨g, hag⟩ : ∃ g, av = some ⟨g, 0, none⟩ := by
        rcases HRP.out.1.2 with ⟨_, h1⟩ | ⟨g', c', cur, e, _⟩
        · omega
        · injection e with e1 _ _
          exact ⟨g', e1⟩
      subst hag
      have hvk : vs[k]? = some vs[k] := List.getElem?_eq_getElem (by omega)
      have hpk : ps[k]? = some ps[k] := List.getElem?_eq_getElem hlt
      have ck : wx.cell? ⟨g, k, none⟩ = some vs[k] := by
        have h := HRP.out.1.cells (g := g) rfl k _ hvk
        rw [addr_add, Nat.zero_add] at h
        exact h
      obtain ⟨hok, hpm⟩ := HPB.out k _ hpk
      have hpis := HRP.out.2 k _ _ (Nat.le_refl _) hpk hvk
      have htk := HTK.out k _ hpk
      have hle := HLE.out (k + 1)
      rw [htk, List.length_append] at hle
      have hll := HL.out
      have hlx := HLX0.out
      obtain ⟨o1, o2, o3, o4⟩ := HLY.out.out
      obtain ⟨ab, cb, hvb⟩ := own_slice7 o1
      subst hvb
      have hLl : L.length = (pfm p).length + (((ps.take k).map pall).flatten).length := by rw [HLL.out, List.length_append]
      have HQC := hide (HIH.out _ hpm wx B _ (n + L.length) (ds ++ L) _ o1 o2 (Nat.le_trans HBq.out o3.size) hpis hok (by omega) (by omega))
      have HL3 : Hid (L ++ pall ps[k] = pfm p ++ ((ps.take (k + 1)).map pall).flatten) := by show _ = _; rw [htk, HLL.out, List.append_assoc]
      obtain ⟨T1, x1, e1⟩ := pis_one hpis
      rw [e1] at ck HQC
      have HLT := hide hlt
      have HK3 := hide o3
      have HA3 : Hid (At7 w (.slice a n c) (.slice ab (n + L.length) cb)) := o4
      generalize hq : ps[k] = qk at *
      clear hok hpm hpis htk hle hll hvk hpk hvl hlt e1 o1 o2 o3 o4 hLl hlx hq
      go_wp2_with fail
      refine HQC.out.mono ?_
      rintro e w3 ⟨v3, rfl, h1, h2, h3, h4⟩
      have HL4 : Hid (LayP w B (.slice a n c) n ds (L ++ pall qk) (.returned v3) w3) := LayP.two HK3.out HA3.out rfl (by rw [← List.append_assoc]; exact h1) h3 h2 h4
      have hrow : w3.ownsRow wc.heap.size 104 1 (.slice (some ⟨g, 0, none⟩) ps.length cv) ps.length vs := h3.owns HRP.out.1 (fun q hq e => by
        have hb := HLY.out.out.1
        exact own_apart HRP.out.1 hb (by decide) hq e)
      have HR4 : Hid (w3.ownsRow wc.heap.size 104 1 (.slice (some ⟨g, 0, none⟩) ps.length cv) ps.length vs ∧ ∀ (i : Nat) (q : Prt) (u : Value), k + 1 ≤ i → ps[i]? = some q → vs[i]? = some u → Pis w3 (fun z => v3.ownBlock = some z) q u) := ⟨hrow, fun i q u hi hq hu => (HRP.out.2 i q u (by omega) hq hu).live h3 (fun z hz => by
        rcases h4 with e | e
        · exact .inl (e ▸ hz)
        · exact .inr (e z hz))⟩
      clear h1 h2 h3 h4 hrow ck HQC HRP HLY HK3 HA3
      go_wp2_with fail
      go_roundw
      case rel => exact ⟨k + 1, _, by have := HLT.out; omega, by go_num, HL3, HL4, HR4⟩
      case measure => have := HLT.out; simp [intOf]; omega
    · as_aux_lemma =>
      have g1 : ¬ (k : Int) < (ps.length : Int) := by omega
      have HE : Hid (LayP w B (.slice a n c) n ds (pall p) (.returned u0) wx) := by
        have h := HLY.out
        rw [HLL.out, show k = ps.length by omega, HFN.out] at h
        exact h
      clear hlt HRP
      go_wp2_with fail
      go_ret
      exact HE.out
theorem laid7_any (p : Prt) : LaiC p := by
  have key : ∀ N p, pm p < N → LaiC p := by
    intro N
    induction N with
    | zero => intro p h; omega
    | succ N ih => intro p h; exact laid_step p (fun q hq => ih q (by omega))
  exact key _ p (Nat.lt_succ_self _)
end
section
open Go.RowKit Go
/-- value.Check's and value.Sorted's contracts for a value, as Append leans on them. -/
def ChkC7 (t : Tv) (E : Nat) : Prop := ∀ (w : World) (cs : Array Value), Tin w t cs → Tabs w → Calls Tryz.prog 16 #[.agg cs] w fun e w' => e = .returned (.int .i64 (E : Nat)) ∧ Below w.heap.size w w'
def SrtC7 (t s : Tv) : Prop := ∀ (w : World) (cs : Array Value), Tin w t cs → Calls Tryz.prog 19 #[.agg cs] w fun e w' => ∃ c', e = .returned (.agg c') ∧ Tin w' s c' ∧ Below w.heap.size w w'
def AppP (w : World) (ds xs : List Nat) (e : Ending) (w' : World) : Prop := ∃ v', e = .returned (.tuple #[v', .int .i64 0]) ∧ w'.ownsRow w.heap.size 5 1 v' (ds ++ xs).length (bv (ds ++ xs)) ∧ Below w.heap.size w w'
theorem mk7 (w : World) (c : Nat) (hc : c ≤ 1000000000) : ∃ cur : Array Value, cur.size = c ∧ (Instr.makeSlice 46 (.int .i64 0) (.int .i64 (c : Nat))).run Tryz.prog w = .ok (.slice (some ⟨w.heap.size, 0, none⟩) 0 c) (w.alloc (.cells cur 5)) := by
  obtain ⟨i5, hi, hz0, hz1, hz2⟩ := info5_ex
  have hr := run_make (P := Tryz.prog) w 46 5 i5 (.int .u8 0) Tryz.underlying46 hi hz0 .i64 .i64 0 c (by omega) (by omega) (by rw [hz2]; omega) (by omega)
  simp only [Int.toNat_natCast, hz1, Nat.mul_one] at hr
  exact ⟨_, by simp [madeCells], hr⟩
theorem mk7_own (w : World) (c : Nat) (cur : Array Value) (hc : cur.size = c) (hl : c ≤ 1000000000) (B : Nat) (hB : B ≤ w.heap.size) : (w.alloc (.cells cur 5)).ownsRow B 5 1 (.slice (some ⟨w.heap.size, 0, none⟩) 0 c) 0 (bv []) :=
  World.ownsRow_made w cur c hB (by unfold maxLen; omega) (by omega)
set_option maxRecDepth 1000000 in
set_option maxHeartbeats 4000000 in
/-- A tree's form behind bytes. -/
theorem append_good (w : World) (vb : Value) (bs : List Nat) (hb : BSl w vb bs) (hbl : bs.length ≤ 100000000) (t s : Tv) (cs : Array Value) (hc : ChkC7 t 0) (hs : SrtC7 t s) (hp : Ptr s) (hl : (tfm s).length ≤ 100000000) (ht : Tin w t cs) (hT : Tabs w) : Calls Tryz.prog 34 #[vb, .agg cs] w (AppP w bs (tfm s)) := by
  have hb0 := below_alloc4 w (.cells cs 62)
  have HB0 := hide hb0
  have HG0 := hide (heap_alloc_new w (.cells cs 62))
  have HSZ := hide ht.size13
  have HTN := hide ht
  have HBS := hide hb
  have HPT := hide hp
  have HL := hide hl
  have HBL := hide hbl
  have HSC := hide hs
  have HCK := hide (hc (w.alloc (.cells cs 62)) cs (ht.move (keep_below hb0)) (hT.next hb0))
  obtain ⟨⟨ab, cb, hvb, _, _⟩, _, _⟩ := hb
  subst hvb
  clear hc ht hT hb0 hs hp hl hbl
  go_enter Tryz.func34, Tryz.ntmps34
  go_upto_region 1 with fail
  generalize w.alloc (.cells cs 62) = w0 at *
  have HVC : Hid (∀ j u, cs[j]? = some u → w0.cell? ⟨w.heap.size, 0 + j, none⟩ = some u) := fun j u hu => by rw [Nat.zero_add]; exact blk_cell HG0.out hu
  go_wp2_with (refine wpList_exec rfl (exec_valAt (g := w.heap.size) (off := 0) (cs := cs) rfl rfl HSZ.out HVC.out) ?_)
  refine HCK.out.mono ?_
  rintro e w1 ⟨rfl, hb1⟩
  have HB1 : Hid (Below w.heap.size w w1) := HB0.out.trans (hb1.mono HB0.out.size)
  have HV1 : Hid (∀ j u, cs[j]? = some u → w1.cell? ⟨w.heap.size, 0 + j, none⟩ = some u) := fun j u hu => keep_below hb1 _ _ (HVC.out j u hu)
  have HS1 := hide (HSC.out w1 cs (HTN.out.move (keep_below HB1.out)))
  clear hb1 HVC HCK
  go_wp2_with (refine wpList_exec rfl (exec_valAt (g := w.heap.size) (off := 0) (cs := cs) rfl rfl HSZ.out HV1.out) ?_)
  refine HS1.out.mono ?_
  rintro e w2 ⟨c2, rfl, ht2, hb2⟩
  have HB2 : Hid (Below w.heap.size w w2) := HB1.out.trans (hb2.mono HB1.out.size)
  have HP2 := hide (partOf_any w2 (fun _ => False) (fun _ h => False.elim h) s c2 (Tis.of_tin ht2 (fun _ h => False.elim h)))
  clear ht2 hb2 HS1 HV1
  go_wp2_with fail
  refine HP2.out.mono ?_
  rintro e w3 ⟨v3, rfl, hb3, hp3⟩
  have HB3 : Hid (Below w.heap.size w w3) := HB2.out.trans (hb3.mono HB2.out.size)
  have HPA : Hid (pall (prt s) = tfm s) := pall_prt HPT.out
  have HOK := hide (pok_prt HPT.out)
  have HSI := hide (size7_any (prt s) w3 (fun _ => False) v3 (fun _ h => False.elim h) hp3 HOK.out (by rw [HPA.out]; exact HL.out))
  have HP3 := hide hp3
  obtain ⟨T3, x3, e3⟩ := pis_one hp3
  subst e3
  rw [HPA.out] at HSI
  clear hb3 hp3 HP2
  go_wp2_with fail
  refine HSI.out.mono ?_
  rintro e w4 ⟨rfl, hb4⟩
  have HB4 : Hid (Below w.heap.size w w4) := HB3.out.trans (hb4.mono HB3.out.size)
  have HP4 := hide (HP3.out.live (Kp.of_below (S := fun _ => False) hb4) (fun _ h => False.elim h))
  clear hb4 HSI
  obtain ⟨K, hK⟩ : ∃ K : Nat, K = bs.length + (tfm s).length := ⟨_, rfl⟩
  have hbl2 := HBL.out
  have hll2 := HL.out
  have e1 : IntKind.i64.wrap ((bs.length : Int) + ((tfm s).length : Int)) = (K : Int) := by rw [IntKind.wrap_i64]; omega
  obtain ⟨cur, hcz, hmk⟩ := mk7 w4 K (by omega)
  have hb5 := below_alloc4 w4 (.cells cur 5)
  have HB5 : Hid (Below w.heap.size w (w4.alloc (.cells cur 5))) := HB4.out.trans (hb5.mono HB4.out.size)
  have HO5 := hide (mk7_own w4 K cur hcz (by omega) w.heap.size HB4.out.size)
  have HP5 : Hid (Pis (w4.alloc (.cells cur 5)) (fun q => (Value.slice (some ⟨w4.heap.size, 0, none⟩) 0 K).ownBlock = some q) (prt s) (.iface T3 x3)) := HP4.out.live (Kp.of_below (S := fun _ => False) hb5) (fun q hq => by
    have e : w4.heap.size = q := Option.some.inj hq
    exact .inr (Nat.le_of_eq e))
  have HS5 := hide (HBS.out.move (keep_below HB5.out))
  clear hK hbl2 hll2 hcz hb5 HP3 HP4
  have hbl3 := HBL.out
  go_wp2_with (at_builtin; refine append_bytes rfl _ _ 46 46 rfl Tryz.underlying46 Tryz.underlying46 w.heap.size _ 0 [] rfl HO5.out (fun h => by cases h) _ bs rfl HS5.out (by omega) HB5.out.size ?_)
  intro v6 w6 hO6 hg6 hn6 hA6
  have hk6 := kp_grown hg6
  have hs6 : ∀ k, (fun q => (Value.slice (some ⟨w4.heap.size, 0, none⟩) 0 K).ownBlock = some q) k → w.heap.size ≤ k := fun k hk => by
    have e : w4.heap.size = k := Option.some.inj hk
    exact e ▸ HB4.out.size
  have HB6 : Hid (Below w.heap.size w w6) := HB5.out.trans (hk6.below HB5.out.size hs6)
  have HP6 := hide (HP5.out.live (T := fun q => v6.ownBlock = some q) hk6 (fun q hq => by
    rcases hA6 with e | e
    · exact .inl (e ▸ hq)
    · exact .inr (e q hq)))
  have hll3 := HL.out
  have HLA := hide (laid7_any (prt s) w6 w.heap.size v6 bs.length bs (.iface T3 x3) hO6 hn6 HB6.out.size HP6.out HOK.out (by rw [HPA.out]; omega) (by rw [HPA.out]; exact HL.out))
  have hlt6 := hide (fun k (hk : v6.ownBlock = some k) => (hO6.lt k hk).1)
  obtain ⟨a6, c6, hv6⟩ := own_slice7 hO6
  subst hv6
  rw [HPA.out] at HLA
  clear hO6 hg6 hn6 hA6 hk6 hs6 hll3 hbl3 HO5 HS5 HP5 HB5 HP6 hmk e1
  go_wp2_with fail
  refine HLA.out.mono ?_
  rintro e w7 ⟨v7, rfl, g1, g2, g3, g4⟩
  have HB7 : Hid (Below w.heap.size w w7) := HB6.out.trans (g3.below HB6.out.size hlt6.out)
  have HO7 := hide g1
  clear g1 g2 g3 g4 HLA
  go_wp2_with fail
  go_ret2
  refine ⟨v7, rfl, ?_, HB7.out⟩
  rw [List.length_append]
  exact HO7.out
end
section
open Go.RowKit Go
set_option maxRecDepth 1000000 in
set_option maxHeartbeats 4000000 in
/-- A tree's form alone. -/
theorem encode_good (w : World) (t s : Tv) (cs : Array Value) (hc : ChkC7 t 0) (hs : SrtC7 t s) (hp : Ptr s) (hl : (tfm s).length ≤ 100000000) (ht : Tin w t cs) (hT : Tabs w) : Calls Tryz.prog 17 #[.agg cs] w (AppP w [] (tfm s)) := by
  have hb0 := below_alloc4 w (.cells cs 62)
  have HB0 := hide hb0
  have HG0 := hide (heap_alloc_new w (.cells cs 62))
  have HSZ := hide ht.size13
  have HCA := hide (append_good (w.alloc (.cells cs 62)) (.slice none 0 0) [] ⟨⟨none, 0, rfl, by simp, .inl rfl⟩, by simp, fun x h => by cases h⟩ (by simp) t s cs hc hs hp hl (ht.move (keep_below hb0)) (hT.next hb0))
  clear hc hs hp hl ht hT hb0
  go_enter Tryz.func17, Tryz.ntmps17
  go_upto_region 1 with fail
  generalize w.alloc (.cells cs 62) = w0 at *
  have HVC : Hid (∀ j u, cs[j]? = some u → w0.cell? ⟨w.heap.size, 0 + j, none⟩ = some u) := fun j u hu => by rw [Nat.zero_add]; exact blk_cell HG0.out hu
  go_wp2_with (refine wpList_exec rfl (exec_valAt (g := w.heap.size) (off := 0) (cs := cs) rfl rfl HSZ.out HVC.out) ?_)
  refine HCA.out.mono ?_
  rintro e w1 ⟨v1, rfl, h1, hb1⟩
  have HB1 : Hid (Below w.heap.size w w1) := HB0.out.trans (hb1.mono HB0.out.size)
  have HO1 := hide (own_mono h1 HB0.out.size)
  clear h1 hb1 HCA HVC
  go_wp2_with fail
  go_ret2
  exact ⟨v1, rfl, HO1.out, HB1.out⟩
end
section
open Go.RowKit Go
set_option maxRecDepth 1000000 in
theorem bad6_any (s : ByteArray) (w : World) (hs : s.size ≤ 140737488351232) (hT : Tabs w) : Calls Tryz.prog 111 #[.string s] w fun e w' => e = .returned (.bool (badb s)) ∧ Below w.heap.size w w' := by
  have cV : Calls Tryz.prog 132 #[.string s] w fun e w' => e = .returned (.bool (Lib.validD s.data.toList)) ∧ Below w.heap.size w w' := Any.utf8_ValidString Tryz.laysValid s w (by omega) hT
  have HV := hide cV
  unfold badb
  clear cV hT
  generalize Lib.validD s.data.toList = V at *
  go_enter Tryz.func111, Tryz.ntmps111
  go_wp2_with fail
  refine (Hid.out HV).mono ?_
  rintro e w1 ⟨rfl, hb1⟩
  have HB1 := hide hb1
  clear hb1 HV
  go_wp2_with fail
  go_ret
  exact ⟨rfl, HB1.out⟩
set_option maxRecDepth 1000000 in
set_option maxHeartbeats 1000000 in
theorem indexFunc_any (w : World) (v : Value) (ks : List ByteArray) (hv : SSl w v ks) (hT : Tabs w) : Calls Tryz.prog 133 #[v, .func (.func 111) #[] #[]] w fun e w' => ∃ r : Int, e = .returned (.int .i64 r) ∧ decide (0 ≤ r) = ks.any badb ∧ Below w.heap.size w w' := by
  have HSZ := hide hv.size
  have HT := hide hT
  obtain ⟨⟨a, cap, rfl, _, hc⟩, hmax, _⟩ := hv
  have HC := hide hc
  clear hc hT
  go_enter Tryz.func133, Tryz.ntmps133
  go_wp2_with fail
  go_loopw [8] (fun ii wx => ∃ i : Nat, i ≤ ks.length ∧ ii = .int .i64 (i : Nat) ∧ Hid (∀ j s, j < i → ks[j]? = some s → badb s = false) ∧ Hid (Below w.heap.size w wx)) (fun ii _ => ks.length - (intOf ii).toNat)
  case atStart => exact ⟨0, by omega, rfl, fun j s hj => absurd hj (by omega), Below.refl _ _⟩
  case round =>
    obtain ⟨i, hi, rfl, HI, HBw⟩ := hrel
    by_cases hlt : i < ks.length
    · as_aux_lemma =>
      have g1 : (i : Int) < (ks.length : Int) := by omega
      obtain ⟨s, hs⟩ : ∃ s, ks[i]? = some s := ⟨ks[i], List.getElem?_eq_getElem hlt⟩
      obtain ⟨b, off, rfl, hcc⟩ := HC.out.resolve_left (fun h => by rw [h] at hlt; simp at hlt)
      have c1 := keep_below HBw.out _ _ (hcc i s hs)
      have HCA := hide (bad6_any s wr (HSZ.out s (List.mem_of_getElem? hs)) (HT.out.next HBw.out))
      have HS1 := hide hs
      clear hcc hs HC
      go_wp2_with fail
      refine HCA.out.mono ?_
      rintro e w1 ⟨rfl, hb1⟩
      have HB1 : Hid (Below w.heap.size w w1) := HBw.out.trans (hb1.mono HBw.out.size)
      clear hb1 HCA c1
      rcases Bool.eq_false_or_eq_true (badb s) with hr | hr
      · have HA : Hid (ks.any badb = true) := List.any_eq_true.2 ⟨s, List.mem_of_getElem? HS1.out, hr⟩
        rw [hr]
        go_wp2_with fail
        go_ret
        exact ⟨_, rfl, by rw [HA.out, decide_eq_true (by omega)], HB1.out⟩
      · have HI2 : Hid (∀ j s, j < i + 1 → ks[j]? = some s → badb s = false) := fun j s' hj h1 => by
          by_cases hji : j = i
          · subst hji
            rw [HS1.out] at h1
            injection h1 with h1
            rw [← h1]
            exact hr
          · exact HI.out j s' (by omega) h1
        rw [hr]
        clear hr HS1 HI
        go_wp2_with fail
        go_roundw
        case rel => exact ⟨i + 1, by omega, by go_num, HI2, HB1⟩
        case measure => simp [intOf]; omega
    · as_aux_lemma =>
      have g1 : ¬ (i : Int) < (ks.length : Int) := by omega
      have HA : Hid (ks.any badb = false) := by
        show _ = _
        rw [List.any_eq_false]
        intro s hs
        obtain ⟨j, hj, e⟩ := List.getElem_of_mem hs
        have h := HI.out j s (by omega) (by rw [List.getElem?_eq_getElem hj, e])
        rw [h]
        simp
      go_wp2_with fail
      go_ret
      exact ⟨_, rfl, by rw [HA.out]; rfl, HBw.out⟩
set_option maxRecDepth 1000000 in
theorem containsFunc_any (w : World) (v : Value) (ks : List ByteArray) (hv : SSl w v ks) (hT : Tabs w) : Calls Tryz.prog 112 #[v, .func (.func 111) #[] #[]] w fun e w' => e = .returned (.bool (ks.any badb)) ∧ Below w.heap.size w w' := by
  have HX := hide (indexFunc_any w v ks hv hT)
  obtain ⟨⟨a, cap, rfl, _, hc⟩, hmax, _⟩ := hv
  clear hc hT
  go_enter Tryz.func112, Tryz.ntmps112
  go_wp2_with fail
  refine HX.out.mono ?_
  rintro e w1 ⟨r, rfl, hr, hb1⟩
  have HR := hide hr
  have HB1 := hide hb1
  clear hr hb1 HX
  go_wp2_with fail
  go_ret
  exact ⟨by rw [← HR.out]; rfl, HB1.out⟩
end
end Go.Proofs.YtadilnmkjcmnnaaGreatDoor
