import Derived.Test.YtbbalhfjgpaabaaGreatDoorJm
import Derived.Test.YtbbalhfjgpaabaaGreatDoorJe
import Derived.Test.YtbbalhfjgpaabaaGreatDoorJj
import Derived.Test.YtbbalhfjgpaabaaGreatDoorJh
namespace Go.Proofs.YtbbalhfjgpaabaaGreatDoor
section
open Go.RowKit Go
set_option maxRecDepth 1000000 in
set_option maxHeartbeats 2000000 in
theorem names11_any (w : World) (aL : Option Addr) (nL cL : Nat) (an : Option Addr) (cn : Nat) (ks : List ByteArray) (hN : SSl w (.slice an ks.length cn) ks) (vl : Value) (l : List Tp) (hl : TSl w vl l) (h80 : l.length ≤ 80) : Calls Tryz.prog 11 #[.agg #[.slice aL nL cL, .slice an ks.length cn], vl] w fun e w' => ∃ a n c, e = .returned (.slice a n c) ∧ Hid (∃ ns, SSl w' (.slice a n c) ns ∧ ns.length ≤ 129 ∧ Below w.heap.size w w' ∧ ∀ q, (Value.slice a n c).ownBlock = some q → w.heap.size ≤ q ∧ q < w'.heap.size) := by
  have HN := hide hN
  have hmax := hN.max
  have HL := hide hl
  obtain ⟨⟨al, cl, rfl, _, _⟩, _⟩ := hl
  have hb0 := below_alloc4 w (.cells #[.slice aL nL cL, .slice an ks.length cn] 25)
  have HB0 := hide hb0
  have HR0 := hide (heap_alloc_new w (.cells #[.slice aL nL cL, .slice an ks.length cn] 25))
  clear hN hb0
  go_enter Tryz.func11, Tryz.ntmps11
  go_wp2_with fail
  generalize w.alloc (.cells #[.slice aL nL cL, .slice an ks.length cn] 25) = wb at *
  refine (builtIn11_own wb).mono ?_
  rintro e w1 ⟨a1, n1, c1, rfl, hP⟩
  have HX1 : Hid (∃ ns, Fdw wb (.slice a1 n1 c1) ns w1 ∧ ns.length = 9 + 0) := ⟨bltn, ⟨hP.out.1, hP.out.2⟩, rfl⟩
  clear hP
  go_wp2_with fail
  go_loopw [5, 6] (fun vo vi wx => ∃ (i : Nat) (a0 : Option Addr) (n0 c0 : Nat), i ≤ l.length ∧ vo = .slice a0 n0 c0 ∧ vi = .int .i64 (i : Nat) ∧ Hid (∃ ns, Fdw wb (.slice a0 n0 c0) ns wx ∧ ns.length = 9 + i)) (fun _ vi _ => l.length - (intOf vi).toNat)
  case atStart => exact ⟨0, _, _, _, by omega, rfl, rfl, HX1⟩
  case round =>
    obtain ⟨i, a0, n0, c0, hi, rfl, rfl, HX⟩ := hrel
    clear HX1
    by_cases hlt : i < l.length
    · have g1 : (i : Int) < (l.length : Int) := by omega
      obtain ⟨t, ht⟩ : ∃ t, l[i]? = some t := ⟨l[i], List.getElem?_eq_getElem hlt⟩
      obtain ⟨b, off, c, e2, -, -, h3, h4⟩ := tsl_at HL.out ht
      subst e2
      have HTS := hide h4
      obtain ⟨ns, hF, hn⟩ := HX.out
      have HF0 := hide hF
      have q0 : wr.cell? ⟨b, off + i * 9, none⟩ = some (.string t.n) := keep_below hF.b _ _ (keep_below HB0.out _ _ h3)
      have HLL : Hid (ns.length ≤ 100000) := by show _ ≤ _; omega
      have HNN := hide hn
      clear ht h3 h4 hF hn HX
      go_wp2_with (refine Fdw.law HF0.out HTS.out HLL.out rfl rfl rfl rfl ?_; intro a8 n8 c8 w8 HP8)
      have HR : Hid (∃ ns, Fdw wb (.slice a8 n8 c8) ns w8 ∧ ns.length = 9 + (i + 1)) := ⟨ns ++ [t.n], HP8.out, by rw [List.length_append, List.length_singleton, HNN.out]; omega⟩
      clear HP8 HF0 q0
      go_roundw
      case rel => exact ⟨i + 1, _, _, _, by omega, rfl, by go_num, HR⟩
      case measure => simp [intOf]; omega
    · have g1 : ¬ (i : Int) < (l.length : Int) := by omega
      have HY0 : Hid (∃ ns, Fdw wb (.slice a0 n0 c0) ns wr ∧ ns.length = 9 + l.length + 0) := by
        obtain ⟨ns, h1, h2⟩ := HX.out
        exact ⟨ns, h1, by omega⟩
      clear HX
      go_wp2_with fail
      go_loopw [5, 7] (fun vo vi wx => ∃ (j : Nat) (a0 : Option Addr) (n0 c0 : Nat), j ≤ 40 ∧ vo = .slice a0 n0 c0 ∧ vi = .int .i64 (j : Nat) ∧ Hid (∃ ns, Fdw wb (.slice a0 n0 c0) ns wx ∧ ns.length = 9 + l.length + j)) (fun _ vi _ => 40 - (intOf vi).toNat)
      case atStart => exact ⟨0, _, _, _, by omega, rfl, rfl, HY0⟩
      case round =>
        rename World => Y0
        clear HY0
        obtain ⟨j, a0, n0, c0, hj, rfl, rfl, HX⟩ := hrel
        have q1 : Y0.cell? ⟨w.heap.size, 1, none⟩ = some (.slice an ks.length cn) := by
          obtain ⟨ns, hF, -⟩ := HX.out
          exact keep_below hF.b _ _ (blk_cell (j := 1) HR0.out rfl)
        by_cases hgo : j < ks.length ∧ j < 40
        · obtain ⟨hj1, hj2⟩ := hgo
          have g2 : (j : Int) < (ks.length : Int) := by omega
          have g3 : (j : Int) < 40 := by omega
          obtain ⟨s, hs⟩ : ∃ s, ks[j]? = some s := ⟨ks[j], List.getElem?_eq_getElem hj1⟩
          obtain ⟨b, off, hbn, hsz, hcell⟩ := ssl_name HN.out hs
          subst hbn
          obtain ⟨ns, hF, hn⟩ := HX.out
          have HF0 := hide hF
          have q0 : Y0.cell? ⟨b, off + j, none⟩ = some (.string s) := keep_below hF.b _ _ (keep_below HB0.out _ _ (hcell w HN.out))
          have HTS := hide hsz
          have HLL : Hid (ns.length ≤ 100000) := by show _ ≤ _; omega
          have HNN := hide hn
          clear hs hsz hcell hF hn HX
          go_wp2_with (refine Fdw.law HF0.out HTS.out HLL.out rfl rfl rfl rfl ?_; intro a8 n8 c8 w8 HP8)
          have HR : Hid (∃ ns, Fdw wb (.slice a8 n8 c8) ns w8 ∧ ns.length = 9 + l.length + (j + 1)) := ⟨ns ++ [s], HP8.out, by rw [List.length_append, List.length_singleton, HNN.out]; omega⟩
          clear HP8 HF0 q0 q1
          go_roundw
          case rel => (repeat (first | exact ⟨⟨j + 1, _, _, _, by omega, rfl, by go_num, HR⟩, rfl⟩ | exact ⟨j + 1, _, _, _, by omega, rfl, by go_num, HR⟩ | apply Exists.intro))
          case measure => simp [intOf]; omega
        · have HEND : Hid (∃ ns, SSl Y0 (.slice a0 n0 c0) ns ∧ ns.length ≤ 129 ∧ Below w.heap.size w Y0 ∧ ∀ q, (Value.slice a0 n0 c0).ownBlock = some q → w.heap.size ≤ q ∧ q < Y0.heap.size) := by
            obtain ⟨ns, hF, hn⟩ := HX.out
            have hz := HB0.out.size
            exact ⟨ns, hF.r.ssl (by omega), by omega, HB0.out.trans (hF.b.mono hz), fun q e => by have := hF.r.o.lt q e; omega⟩
          clear HX
          by_cases hj1 : j < ks.length
          · have g2 : (j : Int) < (ks.length : Int) := by omega
            have g3 : ¬ (j : Int) < 40 := by omega
            go_wp2_with fail
            go_ret
            exact ⟨_, _, _, rfl, HEND.out⟩
          · have g2 : ¬ (j : Int) < (ks.length : Int) := by omega
            go_wp2_with fail
            go_ret
            exact ⟨_, _, _, rfl, HEND.out⟩
end
section
open Go.RowKit Go
def ovF : Array Value := #[.string ⟨#[111, 118, 101, 114]⟩, .string ⟨#[]⟩, .string ⟨#[]⟩, .bool false, .bool false]
theorem ovF_one : ∀ u ∈ ovF.toList, u.oneCell' = true := fun u hu => by
  simp only [ovF, List.mem_cons, List.not_mem_nil, or_false] at hu
  rcases hu with rfl | rfl | rfl | rfl | rfl <;> rfl
set_option maxRecDepth 1000000 in
set_option maxHeartbeats 1000000 in
theorem overF_any {w : World} {base g cap m n : Nat} {L : List (Array Value)} (h : w.ownsRow base 104 5 (.slice (some ⟨g, 0, none⟩) m cap) m (gfl L)) (hL : L.length = m) (hs : ∀ c ∈ L, c.size = 5) (hn : n ≤ m) (hm : m ≤ 1000000) :
    Calls Tryz.prog 51 #[.slice (some ⟨g, 0, none⟩) n cap] w fun e w' => e = .returned (.tuple #[]) ∧ Kp (fun k => k = g) w w' := by
  have HH := hide h
  have HN := hide hn
  have HL := hide hL
  have HS := hide hs
  clear h hL hs
  go_enter Tryz.func51, Tryz.ntmps51
  go_wp2_with fail
  go_loopw [2] (fun i wr => ∃ k : Nat, k ≤ n ∧ i = .int .i64 k ∧ Hid (∃ L', wr.ownsRow base 104 5 (.slice (some ⟨g, 0, none⟩) m cap) m (gfl L') ∧ L'.length = m ∧ (∀ c ∈ L', c.size = 5) ∧ Kp (fun q => q = g) w wr)) (fun i _ => n - (intOf i).toNat)
  case atStart => exact ⟨0, Nat.zero_le _, rfl, L, HH.out, HL.out, HS.out, Kp.refl _ _⟩
  case round =>
    rename World => wr
    obtain ⟨k, hk, rfl, HR⟩ := hrel
    obtain ⟨L', hown, hl', hs', hkp⟩ := HR.out
    by_cases hlt : k < n
    · have hlt' : (k : Int) < (n : Int) := by omega
      obtain ⟨cur, hcur, hcz⟩ := own_cur hown
      have HNX : Hid (∀ w6 : World, w6.heap[g]? = some (.cells (splice cur.toList (k * 5) ovF.toList).toArray 104 (0, 0)) → Kp (fun q => q = g) wr w6 → ∃ L', w6.ownsRow base 104 5 (.slice (some ⟨g, 0, none⟩) m cap) m (gfl L') ∧ L'.length = m ∧ (∀ c ∈ L', c.size = 5) ∧ Kp (fun q => q = g) w w6) := fun w6 h6 hk6 =>
        ⟨_, own_partG (c' := ovF) (j := k) hown hl' hs' hcur (by have := HN.out; omega) rfl h6, by rw [List.length_set]; exact hl', fun d hd => by
          rcases List.mem_or_eq_of_mem_set hd with e | e
          · exact hs' d e
          · rw [e]; rfl, hkp.trans hk6 (fun _ _ e => e)⟩
      have HC5 : Hid (wr.heap[g]? = some (.cells cur.toList.toArray 104 (0, 0))) := hcur
      have HLT : Hid (k * 5 + 5 ≤ cur.toList.length) := by
        have h1 := HN.out
        have h2 : (k + 1) * 5 ≤ m * 5 := Nat.mul_le_mul_right _ (by omega)
        show _ ≤ _
        rw [Array.length_toList]
        omega
      clear hown hl' hs' hkp hcur hcz HR
      go_wp2_with (refine wpList_storePart rfl rfl g (k * 5) cur.toList ovF.toList 104 rfl rfl HC5.out infoFd HLT.out ovF_one ?_)
      intro w6 h6 hk6
      have HI6 := hide (HNX.out w6 h6.out hk6.out)
      clear h6 hk6 HNX
      go_wp2_with fail
      go_roundw
      case rel => exact ⟨k + 1, by omega, by go_num, HI6⟩
      case measure => simp [intOf]; omega
    · have hlt' : ¬ (k : Int) < (n : Int) := by omega
      have HK := hide hkp
      clear hown hl' hs' hkp HR
      go_wp2_with fail
      go_end0
      exact ⟨rfl, HK.out⟩
def ovC : Array Value := #[.string ⟨#[]⟩, .string ⟨#[111, 118, 101, 114]⟩]
theorem ovC_one : ∀ u ∈ ovC.toList, u.oneCell' = true := fun u hu => by
  simp only [ovC, List.mem_cons, List.not_mem_nil, or_false] at hu
  rcases hu with rfl | rfl <;> rfl
set_option maxRecDepth 1000000 in
set_option maxHeartbeats 1000000 in
theorem overC_any {w : World} {base g cap m n : Nat} {L : List (Array Value)} (h : w.ownsRow base 114 2 (.slice (some ⟨g, 0, none⟩) m cap) m (gfl L)) (hL : L.length = m) (hs : ∀ c ∈ L, c.size = 2) (hn : n ≤ m) (hm : m ≤ 1000000) :
    Calls Tryz.prog 52 #[.slice (some ⟨g, 0, none⟩) n cap] w fun e w' => e = .returned (.tuple #[]) ∧ Kp (fun k => k = g) w w' := by
  have HH := hide h
  have HN := hide hn
  have HL := hide hL
  have HS := hide hs
  clear h hL hs
  go_enter Tryz.func52, Tryz.ntmps52
  go_wp2_with fail
  go_loopw [2] (fun i wr => ∃ k : Nat, k ≤ n ∧ i = .int .i64 k ∧ Hid (∃ L', wr.ownsRow base 114 2 (.slice (some ⟨g, 0, none⟩) m cap) m (gfl L') ∧ L'.length = m ∧ (∀ c ∈ L', c.size = 2) ∧ Kp (fun q => q = g) w wr)) (fun i _ => n - (intOf i).toNat)
  case atStart => exact ⟨0, Nat.zero_le _, rfl, L, HH.out, HL.out, HS.out, Kp.refl _ _⟩
  case round =>
    rename World => wr
    obtain ⟨k, hk, rfl, HR⟩ := hrel
    obtain ⟨L', hown, hl', hs', hkp⟩ := HR.out
    by_cases hlt : k < n
    · have hlt' : (k : Int) < (n : Int) := by omega
      obtain ⟨cur, hcur, hcz⟩ := own_cur hown
      have HNX : Hid (∀ w6 : World, w6.heap[g]? = some (.cells (splice cur.toList (k * 2) ovC.toList).toArray 114 (0, 0)) → Kp (fun q => q = g) wr w6 → ∃ L', w6.ownsRow base 114 2 (.slice (some ⟨g, 0, none⟩) m cap) m (gfl L') ∧ L'.length = m ∧ (∀ c ∈ L', c.size = 2) ∧ Kp (fun q => q = g) w w6) := fun w6 h6 hk6 =>
        ⟨_, own_partG (c' := ovC) (j := k) hown hl' hs' hcur (by have := HN.out; omega) rfl h6, by rw [List.length_set]; exact hl', fun d hd => by
          rcases List.mem_or_eq_of_mem_set hd with e | e
          · exact hs' d e
          · rw [e]; rfl, hkp.trans hk6 (fun _ _ e => e)⟩
      have HC5 : Hid (wr.heap[g]? = some (.cells cur.toList.toArray 114 (0, 0))) := hcur
      have HLT : Hid (k * 2 + 2 ≤ cur.toList.length) := by
        have h1 := HN.out
        have h2 : (k + 1) * 2 ≤ m * 2 := Nat.mul_le_mul_right _ (by omega)
        show _ ≤ _
        rw [Array.length_toList]
        omega
      clear hown hl' hs' hkp hcur hcz HR
      go_wp2_with (refine wpList_storePart rfl rfl g (k * 2) cur.toList ovC.toList 114 rfl rfl HC5.out infoCz HLT.out ovC_one ?_)
      intro w6 h6 hk6
      have HI6 := hide (HNX.out w6 h6.out hk6.out)
      clear h6 hk6 HNX
      go_wp2_with fail
      go_roundw
      case rel => exact ⟨k + 1, by omega, by go_num, HI6⟩
      case measure => simp [intOf]; omega
    · have hlt' : ¬ (k : Int) < (n : Int) := by omega
      have HK := hide hkp
      clear hown hl' hs' hkp HR
      go_wp2_with fail
      go_end0
      exact ⟨rfl, HK.out⟩
end
section
open Go.RowKit Go
theorem Lgs.blk {T k : Nat} {mk : Array Value} {w : World} {base : Nat} {v : Value} {L : List (Array Value)} (h : Lgs T k mk w base v L) : ∀ q, v.ownBlock = some q → base ≤ q := fun q e => by
  obtain ⟨⟨g, cap, rfl, ho⟩, _, _⟩ := h
  exact (ho.lt q e).1
theorem Lgs.base {T k : Nat} {mk : Array Value} {w : World} {base B : Nat} {v : Value} {L : List (Array Value)} (h : Lgs T k mk w base v L) (hb : B ≤ base) : Lgs T k mk w B v L := by
  obtain ⟨⟨g, cap, e, ho⟩, h1, h2⟩ := h
  exact ⟨⟨g, cap, e, own_mono ho hb⟩, h1, h2⟩
theorem Lgs.kps {T k : Nat} {mk : Array Value} {w w' : World} {base : Nat} {v : Value} {L : List (Array Value)} {S : Nat → Prop} (h : Lgs T k mk w base v L) (hk : Kp S w w') (hq : ∀ q, v.ownBlock = some q → ¬ S q) : Lgs T k mk w' base v L := by
  obtain ⟨⟨g, cap, rfl, ho⟩, h1, h2⟩ := h
  exact ⟨⟨g, cap, rfl, hk.owns ho (fun q e => hq q e)⟩, h1, h2⟩
theorem lts_blk {w : World} {base : Nat} {v : Value} {ks : List ByteArray} (h : Lts w base v ks) : ∀ q, v.ownBlock = some q → base ≤ q := fun q e => by
  obtain ⟨⟨g, cap, rfl, ho⟩, _, _⟩ := h
  exact (ho.lt q e).1
theorem lts_base {w : World} {base B : Nat} {v : Value} {ks : List ByteArray} (h : Lts w base v ks) (hb : B ≤ base) : Lts w B v ks := by
  obtain ⟨⟨g, cap, e, ho⟩, h1, h2⟩ := h
  exact ⟨⟨g, cap, e, own_mono ho hb⟩, h1, h2⟩
theorem lts_kps {w w' : World} {base : Nat} {v : Value} {ks : List ByteArray} {S : Nat → Prop} (h : Lts w base v ks) (hk : Kp S w w') (hq : ∀ q, v.ownBlock = some q → ¬ S q) : Lts w' base v ks := by
  obtain ⟨⟨g, cap, rfl, ho⟩, h1, h2⟩ := h
  exact ⟨⟨g, cap, rfl, hk.owns ho (fun q e => hq q e)⟩, h1, h2⟩
structure Tsz (t : Tp) : Prop where
  f : ∀ f ∈ t.fs, f.n.size ≤ 140737488351232 ∧ f.k.size ≤ 140737488351232 ∧ f.r.n.size ≤ 140737488351232
  c : ∀ x ∈ t.cs, x.k.size ≤ 140737488351232 ∧ x.n.size ≤ 140737488351232
  w : ∀ s ∈ t.ws, s.size ≤ 140737488351232
theorem tpi_sizes {w : World} {t : Tp} {c : Array Value} (h : Tpi w t c) : Tsz t := by
  obtain ⟨⟨vf, vc, vw, _, hF, hC, hW⟩, _⟩ := h
  refine ⟨fun f hf => ?_, fun x hx => ?_, hW.size⟩
  · obtain ⟨i, hi, e⟩ := List.getElem_of_mem hf
    rcases hF.form with ⟨_, _, _, _, h | ⟨b, off, _, h⟩⟩
    · rw [h] at hf; cases hf
    · obtain ⟨_, ⟨_, h1⟩, _⟩ := h i f (by rw [List.getElem?_eq_getElem hi, e])
      exact h1
  · obtain ⟨i, hi, e⟩ := List.getElem_of_mem hx
    rcases hC.form with ⟨_, _, _, _, h | ⟨b, off, _, h⟩⟩
    · rw [h] at hx; cases hx
    · obtain ⟨_, ⟨_, h1⟩, _⟩ := h i x (by rw [List.getElem?_eq_getElem hi, e])
      exact h1
structure Ltp (w : World) (lo hi : Nat) (t : Tp) (c : Array Value) : Prop where
  ex : ∃ vf vc vw, c = tpc t vf vc vw ∧ Lgs 104 5 mkF w lo vf (t.fs.map fdc) ∧ Lgs 114 2 mkC w lo vc (t.cs.map czc) ∧ Lts w lo vw t.ws ∧ (∀ q, vf.ownBlock = some q ∨ vc.ownBlock = some q ∨ vw.ownBlock = some q → lo ≤ q ∧ q < hi)
  tb : Tpb t
  sz : Tsz t
  ln : t.fs.length ≤ 1000 ∧ t.cs.length ≤ 1000 ∧ t.ws.length ≤ 1000
theorem lgs_hi {T k : Nat} {mk : Array Value} {w : World} {base : Nat} {v : Value} {L : List (Array Value)} (h : Lgs T k mk w base v L) : ∀ q, v.ownBlock = some q → base ≤ q ∧ q < w.heap.size := fun q e => by
  obtain ⟨⟨g, cap, rfl, ho⟩, _, _⟩ := h
  exact ho.lt q e
theorem lts_hi {w : World} {base : Nat} {v : Value} {ks : List ByteArray} (h : Lts w base v ks) : ∀ q, v.ownBlock = some q → base ≤ q ∧ q < w.heap.size := fun q e => by
  obtain ⟨⟨g, cap, rfl, ho⟩, _, _⟩ := h
  exact ho.lt q e
theorem Ltp.mk3 {w : World} {lo : Nat} {t : Tp} {vf vc vw : Value} (hb : Tpb t) (hs : Tsz t) (hl : t.fs.length ≤ 1000 ∧ t.cs.length ≤ 1000 ∧ t.ws.length ≤ 1000) (hF : Lgs 104 5 mkF w lo vf (t.fs.map fdc)) (hC : Lgs 114 2 mkC w lo vc (t.cs.map czc)) (hW : Lts w lo vw t.ws) : Ltp w lo w.heap.size t (tpc t vf vc vw) :=
  ⟨⟨vf, vc, vw, rfl, hF, hC, hW, fun q e => by
    rcases e with e | e | e
    · exact lgs_hi hF q e
    · exact lgs_hi hC q e
    · exact lts_hi hW q e⟩, hb, hs, hl⟩
theorem Ltp.kp {w w' : World} {lo hi : Nat} {t : Tp} {c : Array Value} {S : Nat → Prop} (h : Ltp w lo hi t c) (hk : Kp S w w') (hs : ∀ q, lo ≤ q → q < hi → ¬ S q) : Ltp w' lo hi t c := by
  obtain ⟨⟨vf, vc, vw, e, h1, h2, h3, h4⟩, h5, h6, h7⟩ := h
  exact ⟨⟨vf, vc, vw, e, h1.kps hk (fun q e => hs q (h4 q (.inl e)).1 (h4 q (.inl e)).2), h2.kps hk (fun q e => hs q (h4 q (.inr (.inl e))).1 (h4 q (.inr (.inl e))).2), lts_kps h3 hk (fun q e => hs q (h4 q (.inr (.inr e))).1 (h4 q (.inr (.inr e))).2), h4⟩, h5, h6, h7⟩
theorem Ltp.next {w w' : World} {lo hi : Nat} {t : Tp} {c : Array Value} (h : Ltp w lo hi t c) (hb : Below w.heap.size w w') : Ltp w' lo hi t c := h.kp (Kp.of_below (S := fun _ => False) hb) (fun _ _ _ e => e)
theorem lgs_gsl {α : Type} {n T : Nat} {P : World → α → Array Value → Prop} {f : α → Array Value} {mk : Array Value} {w : World} {base : Nat} {v : Value} {xs : List α} (h : Lgs T n mk w base v (xs.map f)) (hP : ∀ x ∈ xs, P w x (f x)) (hm : xs.length ≤ 140737488351232) : GSl n P w v xs := by
  have hall := h.all
  obtain ⟨⟨g, cap, rfl, ho⟩, hs, hk⟩ := h
  obtain ⟨h1, _, h3⟩ := Lgs.at ho hall
  rw [List.length_map] at h3 ⊢
  refine ⟨⟨_, cap, rfl, ⟨by omega, fun e => by cases e⟩, .inr ⟨g, 0, rfl, fun i x hx => ⟨f x, hP x (List.mem_of_getElem? hx), fun j u hu => ?_⟩⟩⟩, hm⟩
  rw [Nat.zero_add]
  exact h1 i (f x) (by rw [List.getElem?_map, hx]; rfl) j u hu
theorem lts_ssl {w : World} {base : Nat} {v : Value} {ks : List ByteArray} (h : Lts w base v ks) : SSl w v ks := by
  obtain ⟨⟨g, cap, rfl, ho⟩, hl, hs⟩ := h
  obtain ⟨h1, _, h3⟩ := Lts.cell ho
  refine ⟨⟨_, cap, rfl, ⟨by omega, fun e => by cases e⟩, .inr ⟨g, 0, rfl, fun j s hj => ?_⟩⟩, by omega, hs⟩
  rw [Nat.zero_add]
  exact h1 j s hj
theorem Ltp.tpi {w : World} {lo hi : Nat} {t : Tp} {c : Array Value} (h : Ltp w lo hi t c) : Tpi w t c := by
  obtain ⟨⟨vf, vc, vw, e, h1, h2, h3, h4⟩, h5, h6, h7⟩ := h
  exact ⟨⟨vf, vc, vw, e, lgs_gsl h1 (fun x hx => ⟨rfl, h6.f x hx⟩) (by omega), lgs_gsl h2 (fun x hx => ⟨rfl, h6.c x hx⟩) (by omega), lts_ssl h3⟩, h5⟩
set_option maxRecDepth 1000000 in
set_option maxHeartbeats 4000000 in
theorem lendT_any (w : World) (t : Tp) (c : Array Value) (hc : Tpi w t c) (hf1 : t.fs.length ≤ 1000) (hc1 : t.cs.length ≤ 1000) (hw1 : t.ws.length ≤ 1000) : Calls Tryz.prog 18 #[.agg c] w fun e w' => ∃ c', e = .returned (.agg c') ∧ Hid (Ltp w' w.heap.size w'.heap.size t c' ∧ Below w.heap.size w w') := by
  have HBD := hide hc.b
  have HTS := hide (tpi_sizes hc)
  obtain ⟨⟨vf, vc, vw, rfl, hF, hC, hW⟩, _⟩ := hc
  have HF0 := hide hF
  have HC0 := hide hC
  have HW0 := hide hW
  obtain ⟨⟨af, cf, rfl, _, _⟩, _⟩ := hF
  obtain ⟨⟨ac, cc, rfl, _, _⟩, _⟩ := hC
  obtain ⟨⟨aw, cw, rfl, _, _⟩, _, _⟩ := hW
  have HN : Hid (t.fs.length ≤ 1000 ∧ t.cs.length ≤ 1000 ∧ t.ws.length ≤ 1000) := ⟨hf1, hc1, hw1⟩
  unfold tpc
  have HX := hide (Cpw.start w #[.string t.n, .int .i64 t.k, .int .i64 t.lo, .int .i64 t.hi, .string t.r.n, .bool t.r.z, .slice af t.fs.length cf, .slice ac t.cs.length cc, .slice aw t.ws.length cw])
  have HIT := hide infoTp
  have HAT : Hid (∀ w, (isAgg 69).run Tryz.prog w = .ok true w) := aggTp
  have HTC : Hid (∀ wy, Below w.heap.size w wy → ∀ wz, wz = (w.alloc (.cells #[.string t.n, .int .i64 t.k, .int .i64 t.lo, .int .i64 t.hi, .string t.r.n, .bool t.r.z, .slice af t.fs.length cf, .slice ac t.cs.length cc, .slice aw t.ws.length cw] 69)).alloc (.cells #[.string ⟨#[]⟩, .int .i64 0, .int .i64 0, .int .i64 0, .string ⟨#[]⟩, .bool false, .slice none 0 0, .slice none 0 0, .slice none 0 0] 69) → ∀ j u, (#[.string t.n, .int .i64 t.k, .int .i64 t.lo, .int .i64 t.hi, .string t.r.n, .bool t.r.z, .slice af t.fs.length cf, .slice ac t.cs.length cc, .slice aw t.ws.length cw] : Array Value)[j]? = some u → wz.cell? ⟨w.heap.size, 0 + j, none⟩ = some u) := fun _ _ wz hz j u hu => by rw [hz, Nat.zero_add]; exact blk_cell (blk_alloc _ (heap_alloc_new w _)) hu
  clear hf1 hc1 hw1
  go_enter Tryz.func18, Tryz.ntmps18
  go_upto_region 2 with (refine wpList_aggAt rfl rfl HIT.out HAT.out w.heap.size 0 #[.string t.n, .int .i64 t.k, .int .i64 t.lo, .int .i64 t.hi, .string t.r.n, .bool t.r.z, .slice af t.fs.length cf, .slice ac t.cs.length cc, .slice aw t.ws.length cw] rfl rfl (HTC.out w (Below.refl _ _) _ rfl) ?_)
  clear HTC
  rw [show w.heap.size + 1 + 1 = w.heap.size + 2 from rfl]
  generalize ((w.alloc (.cells #[.string t.n, .int .i64 t.k, .int .i64 t.lo, .int .i64 t.hi, .string t.r.n, .bool t.r.z, .slice af t.fs.length cf, .slice ac t.cs.length cc, .slice aw t.ws.length cw] 69)).alloc (.cells #[.string ⟨#[]⟩, .int .i64 0, .int .i64 0, .int .i64 0, .string ⟨#[]⟩, .bool false, .slice none 0 0, .slice none 0 0, .slice none 0 0] 69)).alloc (.cells #[.string t.n, .int .i64 t.k, .int .i64 t.lo, .int .i64 t.hi, .string t.r.n, .bool t.r.z, .slice af t.fs.length cf, .slice ac t.cs.length cc, .slice aw t.ws.length cw] 69) = w0 at *
  have q6 : w0.cell? ⟨w.heap.size, 6, none⟩ = some (.slice af t.fs.length cf) := blk_cell (j := 6) HX.out.a rfl
  go_wp2_with fail
  refine (lendF_any w0 _ t.fs (HF0.out.mv (keep_below HX.out.b)) HN.out.1).mono ?_
  rintro e w1 ⟨vF, rfl, hLF, hbF⟩
  have hqF : ∀ q, vF.ownBlock = some q → w0.heap.size ≤ q := hLF.blk
  have HFq : Hid (∀ q, vF.ownBlock = some q → w.heap.size + 3 ≤ q) := fun q e => by have h1 := hqF q e; have h2 := blk_lt HX.out.c; omega
  have HF1 := hide (hLF.base (show w.heap.size ≤ w0.heap.size from HX.out.b.size))
  replace HX := hide (HX.out.next hbF)
  obtain ⟨⟨gF, fc, hvF, _⟩, _, _⟩ := HF1.out
  rw [List.length_map] at hvF
  subst hvF
  clear hqF hLF
  have o6 : w1.cell? ⟨w.heap.size + 2, 6, none⟩ = some (.slice af t.fs.length cf) := blk_cell (j := 6) HX.out.c rfl
  have z6 := blk_frozen 6 HX.out.c
  have hkF : Kp (fun q => q = w.heap.size + 2) w1 (w1.setCell ⟨w.heap.size + 2, 6, none⟩ (.slice (some ⟨gF, 0, none⟩) t.fs.length fc)) := (Kp.refl _ w1).setCell _ _ (fun _ => rfl)
  have HX2 : Hid (Cpw w #[.string t.n, .int .i64 t.k, .int .i64 t.lo, .int .i64 t.hi, .string t.r.n, .bool t.r.z, .slice af t.fs.length cf, .slice ac t.cs.length cc, .slice aw t.ws.length cw] #[.string t.n, .int .i64 t.k, .int .i64 t.lo, .int .i64 t.hi, .string t.r.n, .bool t.r.z, .slice (some ⟨gF, 0, none⟩) t.fs.length fc, .slice ac t.cs.length cc, .slice aw t.ws.length cw] (w1.setCell ⟨w.heap.size + 2, 6, none⟩ (.slice (some ⟨gF, 0, none⟩) t.fs.length fc))) := HX.out.set 6 (.slice (some ⟨gF, 0, none⟩) t.fs.length fc)
  replace HF1 := hide (Lgs.kps HF1.out hkF (fun q e e2 => by have h1 := HFq.out q e; have h2 : q = w.heap.size + 2 := e2; omega))
  clear HX q6 hkF hbF
  go_upto_region 3 with fail
  clear o6 z6
  generalize w1.setCell ⟨w.heap.size + 2, 6, none⟩ (.slice (some ⟨gF, 0, none⟩) t.fs.length fc) = w2 at *
  have HX := HX2
  clear HX2
  have q7 : w2.cell? ⟨w.heap.size, 7, none⟩ = some (.slice ac t.cs.length cc) := blk_cell (j := 7) HX.out.a rfl
  go_wp2_with fail
  refine (lendC_any w2 _ t.cs (HC0.out.mv (keep_below HX.out.b)) HN.out.2.1).mono ?_
  rintro e w3 ⟨vC, rfl, hLC, hbC⟩
  have hqC : ∀ q, vC.ownBlock = some q → w2.heap.size ≤ q := hLC.blk
  have HCq : Hid (∀ q, vC.ownBlock = some q → w.heap.size + 3 ≤ q) := fun q e => by have h1 := hqC q e; have h2 := blk_lt HX.out.c; omega
  have HC1 := hide (hLC.base (show w.heap.size ≤ w2.heap.size from HX.out.b.size))
  replace HX := hide (HX.out.next hbC)
  obtain ⟨⟨gC, cd, hvC, _⟩, _, _⟩ := HC1.out
  rw [List.length_map] at hvC
  subst hvC
  clear hqC hLC
  have o7 : w3.cell? ⟨w.heap.size + 2, 7, none⟩ = some (.slice ac t.cs.length cc) := blk_cell (j := 7) HX.out.c rfl
  have z7 := blk_frozen 7 HX.out.c
  have hkC : Kp (fun q => q = w.heap.size + 2) w3 (w3.setCell ⟨w.heap.size + 2, 7, none⟩ (.slice (some ⟨gC, 0, none⟩) t.cs.length cd)) := (Kp.refl _ w3).setCell _ _ (fun _ => rfl)
  have HX2 : Hid (Cpw w #[.string t.n, .int .i64 t.k, .int .i64 t.lo, .int .i64 t.hi, .string t.r.n, .bool t.r.z, .slice af t.fs.length cf, .slice ac t.cs.length cc, .slice aw t.ws.length cw] #[.string t.n, .int .i64 t.k, .int .i64 t.lo, .int .i64 t.hi, .string t.r.n, .bool t.r.z, .slice (some ⟨gF, 0, none⟩) t.fs.length fc, .slice (some ⟨gC, 0, none⟩) t.cs.length cd, .slice aw t.ws.length cw] (w3.setCell ⟨w.heap.size + 2, 7, none⟩ (.slice (some ⟨gC, 0, none⟩) t.cs.length cd))) := HX.out.set 7 (.slice (some ⟨gC, 0, none⟩) t.cs.length cd)
  replace HF1 := hide (Lgs.kps (HF1.out.next hbC) hkC (fun q e e2 => by have h1 := HFq.out q e; have h2 : q = w.heap.size + 2 := e2; omega))
  replace HC1 := hide (Lgs.kps HC1.out hkC (fun q e e2 => by have h1 := HCq.out q e; have h2 : q = w.heap.size + 2 := e2; omega))
  clear HX q7 hkC hbC
  go_upto_region 4 with fail
  clear o7 z7
  generalize w3.setCell ⟨w.heap.size + 2, 7, none⟩ (.slice (some ⟨gC, 0, none⟩) t.cs.length cd) = w4 at *
  have HX := HX2
  clear HX2
  have q8 : w4.cell? ⟨w.heap.size, 8, none⟩ = some (.slice aw t.ws.length cw) := blk_cell (j := 8) HX.out.a rfl
  go_wp2_with fail
  refine (lendTexts_any w4 _ t.ws (HW0.out.move (keep_below HX.out.b)) (by have := HN.out.2.2; omega)).mono ?_
  rintro e w5 ⟨vS, rfl, hLS, hbS⟩
  have hqS : ∀ q, vS.ownBlock = some q → w4.heap.size ≤ q := lts_blk hLS
  have HSq : Hid (∀ q, vS.ownBlock = some q → w.heap.size + 3 ≤ q) := fun q e => by have h1 := hqS q e; have h2 := blk_lt HX.out.c; omega
  have HS1 := hide (lts_base hLS (show w.heap.size ≤ w4.heap.size from HX.out.b.size))
  replace HX := hide (HX.out.next hbS)
  obtain ⟨⟨gS, wc, hvS, _⟩, _, _⟩ := HS1.out
  subst hvS
  clear hqS hLS
  have o8 : w5.cell? ⟨w.heap.size + 2, 8, none⟩ = some (.slice aw t.ws.length cw) := blk_cell (j := 8) HX.out.c rfl
  have z8 := blk_frozen 8 HX.out.c
  have hkS : Kp (fun q => q = w.heap.size + 2) w5 (w5.setCell ⟨w.heap.size + 2, 8, none⟩ (.slice (some ⟨gS, 0, none⟩) t.ws.length wc)) := (Kp.refl _ w5).setCell _ _ (fun _ => rfl)
  have HX2 : Hid (Cpw w #[.string t.n, .int .i64 t.k, .int .i64 t.lo, .int .i64 t.hi, .string t.r.n, .bool t.r.z, .slice af t.fs.length cf, .slice ac t.cs.length cc, .slice aw t.ws.length cw] #[.string t.n, .int .i64 t.k, .int .i64 t.lo, .int .i64 t.hi, .string t.r.n, .bool t.r.z, .slice (some ⟨gF, 0, none⟩) t.fs.length fc, .slice (some ⟨gC, 0, none⟩) t.cs.length cd, .slice (some ⟨gS, 0, none⟩) t.ws.length wc] (w5.setCell ⟨w.heap.size + 2, 8, none⟩ (.slice (some ⟨gS, 0, none⟩) t.ws.length wc))) := HX.out.set 8 (.slice (some ⟨gS, 0, none⟩) t.ws.length wc)
  replace HF1 := hide (Lgs.kps (HF1.out.next hbS) hkS (fun q e e2 => by have h1 := HFq.out q e; have h2 : q = w.heap.size + 2 := e2; omega))
  replace HC1 := hide (Lgs.kps (HC1.out.next hbS) hkS (fun q e e2 => by have h1 := HCq.out q e; have h2 : q = w.heap.size + 2 := e2; omega))
  replace HS1 := hide (lts_kps HS1.out hkS (fun q e e2 => by have h1 := HSq.out q e; have h2 : q = w.heap.size + 2 := e2; omega))
  clear HX q8 hkS hbS
  go_upto_region 5 with fail
  clear o8 z8
  generalize w5.setCell ⟨w.heap.size + 2, 8, none⟩ (.slice (some ⟨gS, 0, none⟩) t.ws.length wc) = w6 at *
  have HX := HX2
  clear HX2
  have HR := hide HX.out.r
  have HI2 : Hid ((Tryz.prog.info? 69).map (·.size) = some (#[.string t.n, .int .i64 t.k, .int .i64 t.lo, .int .i64 t.hi, .string t.r.n, .bool t.r.z, .slice (some ⟨gF, 0, none⟩) t.fs.length fc, .slice (some ⟨gC, 0, none⟩) t.cs.length cd, .slice (some ⟨gS, 0, none⟩) t.ws.length wc] : Array Value).size) := infoTp
  have HA1 : Hid ((#[.string t.n, .int .i64 t.k, .int .i64 t.lo, .int .i64 t.hi, .string t.r.n, .bool t.r.z, .slice (some ⟨gF, 0, none⟩) t.fs.length fc, .slice (some ⟨gC, 0, none⟩) t.cs.length cd, .slice (some ⟨gS, 0, none⟩) t.ws.length wc] : Array Value).all (·.oneCell') = true) := by show _ = _; simp [Value.oneCell']
  have HTC : Hid (∀ j u, (#[.string t.n, .int .i64 t.k, .int .i64 t.lo, .int .i64 t.hi, .string t.r.n, .bool t.r.z, .slice (some ⟨gF, 0, none⟩) t.fs.length fc, .slice (some ⟨gC, 0, none⟩) t.cs.length cd, .slice (some ⟨gS, 0, none⟩) t.ws.length wc] : Array Value)[j]? = some u → w6.cell? ⟨w.heap.size + 2, 0 + j, none⟩ = some u) := fun j u hu => by rw [Nat.zero_add]; exact blk_cell HX.out.c hu
  go_wp2_with (first
    | (refine wpList_aggAt rfl rfl HIT.out HAT.out (w.heap.size + 2) 0 #[.string t.n, .int .i64 t.k, .int .i64 t.lo, .int .i64 t.hi, .string t.r.n, .bool t.r.z, .slice (some ⟨gF, 0, none⟩) t.fs.length fc, .slice (some ⟨gC, 0, none⟩) t.cs.length cd, .slice (some ⟨gS, 0, none⟩) t.ws.length wc] rfl rfl HTC.out ?_)
    | (refine wpList_storeRow rfl rfl (w.heap.size + 1) #[.string ⟨#[]⟩, .int .i64 0, .int .i64 0, .int .i64 0, .string ⟨#[]⟩, .bool false, .slice none 0 0, .slice none 0 0, .slice none 0 0] #[.string t.n, .int .i64 t.k, .int .i64 t.lo, .int .i64 t.hi, .string t.r.n, .bool t.r.z, .slice (some ⟨gF, 0, none⟩) t.fs.length fc, .slice (some ⟨gC, 0, none⟩) t.cs.length cd, .slice (some ⟨gS, 0, none⟩) t.ws.length wc] 69 rfl rfl HR.out HI2.out rfl HA1.out ?_))
  have hkr := row_kp w6 (w.heap.size + 1) #[.string t.n, .int .i64 t.k, .int .i64 t.lo, .int .i64 t.hi, .string t.r.n, .bool t.r.z, .slice (some ⟨gF, 0, none⟩) t.fs.length fc, .slice (some ⟨gC, 0, none⟩) t.cs.length cd, .slice (some ⟨gS, 0, none⟩) t.ws.length wc]
  have hn1 : ∀ {v : Value} {S : Nat → Prop}, (∀ q, S q → q < w.heap.size + 3) → (∀ q, v.ownBlock = some q → w.heap.size + 3 ≤ q) → ∀ q, v.ownBlock = some q → ¬ S q := fun h1 h2 q e e2 => by have := h1 q e2; have := h2 q e; omega
  have hone : ∀ q, q = w.heap.size + 1 → q < w.heap.size + 3 := fun q e => by omega
  have hF2 := Lgs.kps HF1.out hkr (hn1 hone HFq.out)
  have hC2 := Lgs.kps HC1.out hkr (hn1 hone HCq.out)
  have hS2 := lts_kps HS1.out hkr (hn1 hone HSq.out)
  have hLT := Ltp.mk3 HBD.out HTS.out HN.out hF2 hC2 hS2
  exact bodyPost_ret (results_cell_row rfl _ _ _ _ _ _ _ rfl (row_same HR.out) Tryz.underlying69 rfl infoTp) rfl ⟨_, rfl, hLT, HX.out.b.trans (hkr.below HX.out.b.size (fun q e => by omega))⟩
end
section
open Go.RowKit Go
def mkT : Array Value := #[.string ⟨#[]⟩, .int .i64 777, .int .i64 0, .int .i64 0, .string ⟨#[]⟩, .bool false, .slice none 0 0, .slice none 0 0, .slice none 0 0]
theorem mkT_one : ∀ u ∈ mkT.toList, u.oneCell' = true := fun u hu => by
  simp only [mkT, List.mem_cons, List.not_mem_nil, or_false] at hu
  rcases hu with rfl | rfl | rfl | rfl | rfl | rfl | rfl | rfl | rfl <;> rfl
structure Lty (w : World) (v : Value) (L M : List (Array Value)) (ts : List Tp) (A E : Nat → Nat) (wx : World) : Prop where
  o : wx.ownsRow w.heap.size 69 9 v (L ++ M).length (gfl (L ++ M))
  n : L.length = ts.length
  z : ∀ c ∈ L, c.size = 9
  a : ∀ i, i < ts.length → (w.heap.size ≤ A i ∧ A i ≤ E i) ∧ E i ≤ wx.heap.size
  d : ∀ i j, i < j → j < ts.length → E i ≤ A j
  g : ∀ i q, i < ts.length → v.ownBlock = some q → q < A i ∨ E i ≤ q
  k : ∀ (i : Nat) (t : Tp) (c : Array Value), ts[i]? = some t → L[i]? = some c → Ltp wx (A i) (E i) t c
  b : Below w.heap.size w wx
theorem Lty.next {w : World} {v : Value} {L M : List (Array Value)} {ts : List Tp} {A E : Nat → Nat} {wx wy : World} (h : Lty w v L M ts A E wx) (hb : Below wx.heap.size wx wy) : Lty w v L M ts A E wy :=
  ⟨(Kp.of_below (S := fun _ => False) hb).owns h.o (fun _ _ e => e), h.n, h.z, fun i hi => ⟨(h.a i hi).1, by have := (h.a i hi).2; have := hb.size; omega⟩, h.d, h.g, fun i t c h1 h2 => (h.k i t c h1 h2).next hb, h.b.trans (hb.mono h.b.size)⟩
theorem Lty.app {w : World} {v v' : Value} {L : List (Array Value)} {ts : List Tp} {A E : Nat → Nat} {wx wy : World} {t : Tp} {c : Array Value} {lo hi : Nat} (h : Lty w v L [] ts A E wx) (hg : wx.grownBy wy v.ownBlock) (ho : wy.ownsRow w.heap.size 69 9 v' ((L ++ []).length + 1) (gfl ((L ++ []) ++ [c]))) (hl : v'.ownBlock = v.ownBlock ∨ v'.ownBlock = some wx.heap.size) (hc : c.size = 9) (hk : Ltp wx lo hi t c) (hw : w.heap.size ≤ lo) (hlh : lo ≤ hi ∧ hi ≤ wx.heap.size) (hlo : ∀ i, i < ts.length → E i ≤ lo) (hv : ∀ q, v.ownBlock = some q → q < lo) :
    Lty w v' (L ++ [c]) [] (ts ++ [t]) (fun i => if i = ts.length then lo else A i) (fun i => if i = ts.length then hi else E i) wy := by
  have hkp := kp_grown hg
  have hsz : wx.heap.size ≤ wy.heap.size := hkp.size
  have hgv : ∀ i q, i < ts.length → v'.ownBlock = some q → q < A i ∨ E i ≤ q := fun i q hi e => by
    rcases hl with e2 | e2
    · exact h.g i q hi (e2 ▸ e)
    · rw [e2] at e
      have := Option.some.inj e
      have := (h.a i hi).2
      omega
  have hmv : ∀ (lo hi : Nat) (t : Tp) (c : Array Value), Ltp wx lo hi t c → (∀ q, v.ownBlock = some q → q < lo ∨ hi ≤ q) → Ltp wy lo hi t c := fun lo hi t c h1 h2 => h1.kp hkp (fun q e1 e2 e => by have := h2 q e; omega)
  refine ⟨by rw [List.append_nil, List.length_append]; rw [List.append_nil] at ho; exact ho, by rw [List.length_append, List.length_append, h.n]; rfl, fun d hd => ?_, fun i hi => ?_, fun i j hij hj => ?_, fun i q hi e => ?_, fun i u d h1 h2 => ?_, ?_⟩
  · rcases List.mem_append.1 hd with hd | hd
    · exact h.z d hd
    · rw [List.mem_singleton.1 hd]; exact hc
  · by_cases e : i = ts.length
    · rw [if_pos e, if_pos e]; omega
    · rw [if_neg e, if_neg e]
      have := h.a i (by rw [List.length_append] at hi; simp at hi; omega)
      omega
  · rw [List.length_append] at hj
    simp at hj
    rw [if_neg (by omega)]
    by_cases e : j = ts.length
    · rw [if_pos e]; exact hlo i (by omega)
    · rw [if_neg e]; exact h.d i j hij (by omega)
  · by_cases e2 : i = ts.length
    · rw [if_pos e2, if_pos e2]
      rcases hl with e3 | e3
      · exact .inl (hv q (e3 ▸ e))
      · rw [e3] at e
        have := Option.some.inj e
        exact .inr (by omega)
    · rw [if_neg e2, if_neg e2]
      exact hgv i q (by rw [List.length_append] at hi; simp at hi; omega) e
  · by_cases hi : i < ts.length
    · rw [List.getElem?_append_left hi] at h1
      rw [List.getElem?_append_left (by rw [h.n]; exact hi)] at h2
      rw [if_neg (by omega), if_neg (by omega)]
      exact hmv _ _ u d (h.k i u d h1 h2) (fun q e => h.g i q hi e)
    · have e : i = ts.length := by
        have := (List.getElem?_eq_some_iff.1 h1).1
        rw [List.length_append, List.length_singleton] at this
        omega
      subst e
      rw [List.getElem?_append_right (Nat.le_refl _), Nat.sub_self] at h1
      rw [← h.n, List.getElem?_append_right (Nat.le_refl _), Nat.sub_self] at h2
      have e1 : t = u := by simpa using h1
      have e2 : c = d := by simpa using h2
      subst e1
      subst e2
      rw [if_pos rfl, if_pos rfl]
      exact hmv lo _ t c hk (fun q e => .inl (hv q e))
  · exact h.b.trans (hkp.below h.b.size (fun q e => (h.o.lt q e).1))
theorem Lty.mark {w : World} {v v' : Value} {L M : List (Array Value)} {ts : List Tp} {A E : Nat → Nat} {wx wy : World} {c : Array Value} (h : Lty w v L M ts A E wx) (hg : wx.grownBy wy v.ownBlock) (ho : wy.ownsRow w.heap.size 69 9 v' ((L ++ M).length + 1) (gfl ((L ++ M) ++ [c]))) (hl : v'.ownBlock = v.ownBlock ∨ v'.ownBlock = some wx.heap.size) : Lty w v' L (M ++ [c]) ts A E wy := by
  have hkp := kp_grown hg
  have hsz : wx.heap.size ≤ wy.heap.size := hkp.size
  refine ⟨by rw [← List.append_assoc, List.length_append]; exact ho, h.n, h.z, fun i hi => ⟨(h.a i hi).1, by have := (h.a i hi).2; omega⟩, h.d, fun i q hi e => ?_, fun i t c h1 h2 => (h.k i t c h1 h2).kp hkp (fun q e1 e2 e => by have := h.g i q (List.getElem?_eq_some_iff.1 h1).1 e; omega), h.b.trans (hkp.below h.b.size (fun q e => (h.o.lt q e).1))⟩
  rcases hl with e2 | e2
  · exact h.g i q hi (e2 ▸ e)
  · rw [e2] at e
    have := Option.some.inj e
    have := (h.a i hi).2
    omega
structure Ltr (w : World) (B g cap : Nat) (L : List (Array Value)) (ts : List Tp) (A E : Nat → Nat) : Prop where
  o : w.ownsRow B 69 9 (.slice (some ⟨g, 0, none⟩) (ts.length + 9) cap) (ts.length + 9) (gfl (L ++ List.replicate 9 mkT))
  n : L.length = ts.length
  z : ∀ c ∈ L, c.size = 9
  a : ∀ i, i < ts.length → B ≤ A i ∧ A i ≤ E i
  d : ∀ i j, i < j → j < ts.length → E i ≤ A j
  g : ∀ i, i < ts.length → g < A i ∨ E i ≤ g
  k : ∀ (i : Nat) (t : Tp) (c : Array Value), ts[i]? = some t → L[i]? = some c → Ltp w (A i) (E i) t c
  m : ts.length ≤ 1000
theorem Ltr.next {w w' : World} {B g cap : Nat} {L : List (Array Value)} {ts : List Tp} {A E : Nat → Nat} (h : Ltr w B g cap L ts A E) (hb : Below w.heap.size w w') : Ltr w' B g cap L ts A E :=
  ⟨(Kp.of_below (S := fun _ => False) hb).owns h.o (fun _ _ e => e), h.n, h.z, h.a, h.d, h.g, fun i t c h1 h2 => (h.k i t c h1 h2).next hb, h.m⟩
theorem Ltr.all {w : World} {B g cap : Nat} {L : List (Array Value)} {ts : List Tp} {A E : Nat → Nat} (h : Ltr w B g cap L ts A E) : ∀ c ∈ L ++ List.replicate 9 mkT, c.size = 9 := fun c hc => by
  rcases List.mem_append.1 hc with hc | hc
  · exact h.z c hc
  · rw [List.eq_of_mem_replicate hc]; rfl
theorem Ltr.tsl {w : World} {B g cap : Nat} {L : List (Array Value)} {ts : List Tp} {A E : Nat → Nat} (h : Ltr w B g cap L ts A E) : TSl w (.slice (some ⟨g, 0, none⟩) ts.length cap) ts := by
  have ho := h.o
  rw [← h.n] at ho
  obtain ⟨h1, _, h3⟩ := Lgs.at ho h.all
  have hm := h.m
  have hn := h.n
  refine ⟨⟨_, cap, rfl, ⟨by omega, fun e => by cases e⟩, .inr ⟨g, 0, rfl, fun i t ht => ?_⟩⟩, by omega⟩
  have hil := (List.getElem?_eq_some_iff.1 ht).1
  have hc : L[i]? = some (L[i]'(by omega)) := List.getElem?_eq_getElem _
  refine ⟨_, (h.k i t _ ht hc).tpi, fun j u hu => ?_⟩
  rw [Nat.zero_add]
  exact h1 i _ hc j u hu
set_option maxRecDepth 1000000 in
set_option maxHeartbeats 4000000 in
theorem lendTso_any (w : World) (v : Value) (l : List Tp) (hv : TSl w v l) (hS : Shrt l) (hl : l.length ≤ 1000) : Calls Tryz.prog 6 #[v] w fun e w' => ∃ g cap L A E, e = .returned (.slice (some ⟨g, 0, none⟩) l.length cap) ∧ Hid (Ltr w' w.heap.size g cap L l A E ∧ Below w.heap.size w w' ∧ g < w'.heap.size ∧ ∀ i, i < l.length → E i ≤ w'.heap.size) := by
  have HSH := hide hS
  obtain ⟨⟨a, cap, rfl, _, hform⟩, _⟩ := hv
  have HF := hide hform
  clear hform hS
  obtain ⟨i9, hi, hz0, hz1, hz2⟩ := info_ex infoTp3
  obtain ⟨w0, hmk, hown0, hgr0⟩ := run_make_own (P := Tryz.prog) w w.heap.size 49 69 i9 (.agg #[.string ⟨#[]⟩, .int .i64 0, .int .i64 0, .int .i64 0, .string ⟨#[]⟩, .bool false, .slice none 0 0, .slice none 0 0, .slice none 0 0]) 9 Tryz.underlying49 hi hz0 hz1 .i64 .i64 (l.length + 9) (by rw [hz2]; omega) (by unfold maxLen; omega) (Nat.le_refl _)
  have ec : ((l.length + 9 : Nat) : Int) = (l.length : Int) + 9 := by omega
  rw [ec] at hmk
  clear ec hi hz0 hz1 hz2
  have hbel0 : Below w.heap.size w w0 := (Below.refl _ _).grown hgr0 (Nat.le_refl _) (fun _ h => by cases h)
  have HX : Hid (Lty w (.slice (some ⟨w.heap.size, 0, none⟩) 0 (l.length + 9)) [] [] (l.take 0) (fun _ => 0) (fun _ => 0) w0) := ⟨hown0, rfl, fun _ h => by simp at h, fun i hi => by simp at hi, fun i j _ hj => by simp at hj, fun i q hi => by simp at hi, fun i t c h1 => by simp at h1, hbel0⟩
  have HSZ0 : Hid (∀ q, (Value.slice (some ⟨w.heap.size, 0, none⟩) 0 (l.length + 9)).ownBlock = some q → q < w0.heap.size) := fun q e => (hown0.lt q e).2
  clear hown0 hgr0 hbel0
  have HIT := hide infoTp
  have HAT : Hid (∀ w, (isAgg 69).run Tryz.prog w = .ok true w) := aggTp
  go_enter Tryz.func6, Tryz.ntmps6
  go_wp2_with fail
  clear hmk
  go_loopw [3, 4] (fun vo vi wx => ∃ (i : Nat) (a0 : Option Addr) (n0 c0 : Nat) (L : List (Array Value)) (A E : Nat → Nat), i ≤ l.length ∧ vo = .slice a0 n0 c0 ∧ vi = .int .i64 (i : Nat) ∧ Hid (Lty w (.slice a0 n0 c0) L [] (l.take i) A E wx)) (fun _ vi _ => l.length - (intOf vi).toNat)
  case atStart => exact ⟨0, _, _, _, [], _, _, by omega, rfl, rfl, HX⟩
  case round =>
    obtain ⟨i, a0, n0, c0, L, A, E, hi, rfl, rfl, HXi⟩ := hrel
    clear HX
    by_cases hlt : i < l.length
    · as_aux_lemma =>
      have g1 : (i : Int) < (l.length : Int) := by omega
      obtain ⟨t, ht⟩ : ∃ t, l[i]? = some t := ⟨l[i], List.getElem?_eq_getElem hlt⟩
      obtain ⟨b, off, rfl, hcc⟩ := HF.out.resolve_left (fun h => by rw [h] at hlt; simp at hlt)
      obtain ⟨c, hc, hcell⟩ := hcc i t ht
      have HC := hide hc
      obtain ⟨⟨vf, vc, vw, rfl, ⟨⟨af, cf, rfl, -, -⟩, -⟩, ⟨⟨ac, cc, rfl, -, -⟩, -⟩, ⟨⟨aw, cw, rfl, -, -⟩, -, -⟩⟩, -⟩ := hc
      unfold tpc at hcell HC
      have HCL : Hid (∀ j u, (#[.string t.n, .int .i64 t.k, .int .i64 t.lo, .int .i64 t.hi, .string t.r.n, .bool t.r.z, .slice af t.fs.length cf, .slice ac t.cs.length cc, .slice aw t.ws.length cw] : Array Value)[j]? = some u → wr.cell? ⟨b, off + i * 9 + j, none⟩ = some u) := fun j u hj => keep_below HXi.out.b _ _ (hcell j u hj)
      have HC2 : Hid (Tpi wr t #[.string t.n, .int .i64 t.k, .int .i64 t.lo, .int .i64 t.hi, .string t.r.n, .bool t.r.z, .slice af t.fs.length cf, .slice ac t.cs.length cc, .slice aw t.ws.length cw]) := HC.out.move (keep_below HXi.out.b)
      have HSI := hide (HSH.out t (List.mem_of_getElem? ht))
      have HTK := hide (takeP l i t ht)
      have HTL : Hid ((l.take i).length = i) := by show _ = _; rw [List.length_take]; omega
      have HLL : Hid ((L ++ []).length ≤ 1000000) := by
        have h1 := HXi.out.n
        have h2 := HTL.out
        show _ ≤ _
        rw [List.append_nil]
        omega
      clear hcc hcell ht HF HC
      go_wp2_with (refine wpList_aggAt rfl rfl HIT.out HAT.out b (off + i * 9) #[.string t.n, .int .i64 t.k, .int .i64 t.lo, .int .i64 t.hi, .string t.r.n, .bool t.r.z, .slice af t.fs.length cf, .slice ac t.cs.length cc, .slice aw t.ws.length cw] rfl rfl HCL.out ?_)
      refine (lendT_any wr t _ HC2.out HSI.out.1 HSI.out.2.1 HSI.out.2.2).mono ?_
      rintro e w3 ⟨c', rfl, hP⟩
      have hb3 := hP.out.2
      have hb4 := below_alloc4 w3 (.cells c' 69)
      have HX4 := hide ((HXi.out.next hb3).next hb4)
      have HK4 := hide (hP.out.1.next hb4)
      have HZ9 := hide hP.out.1.tpi.size9
      have H1C : Hid (∀ u ∈ c'.toList, u.oneCell' = true) := fun u hu => by
        have h := hP.out.1.tpi.all1
        rw [Array.all_eq_true_iff_forall_mem] at h
        exact h u (by simpa using hu)
      have HAL : Hid (w.heap.size ≤ (w3.alloc (.cells c' 69)).heap.size) := HX4.out.b.size
      have HLH : Hid (wr.heap.size ≤ w3.heap.size ∧ w3.heap.size ≤ (w3.alloc (.cells c' 69)).heap.size) := ⟨hb3.size, hb4.size⟩
      have HWL : Hid (w.heap.size ≤ wr.heap.size) := HXi.out.b.size
      have HLO : Hid (∀ j, j < (l.take i).length → E j ≤ wr.heap.size) := fun j hj => (HXi.out.a j hj).2
      have HVB : Hid (∀ q, (Value.slice a0 n0 c0).ownBlock = some q → q < wr.heap.size) := fun q e => (HXi.out.o.lt q e).2
      have HAP : Hid (∀ (ops : Array Oper) (rest : List Oper) (o : Oper) (ac : Act) (Q : Exit → Act → World → Prop) (s y : Operand), o.guard = none → o.op = .call { callee := .builtin .append, args := #[s, y], argTypes := #[49, 49] } → ac.eval s = .slice a0 n0 c0 → ac.eval y = .slice (some ⟨w3.heap.size, 0, none⟩) 1 1 → (∀ v' w', (∃ A' E', Lty w v' (L ++ [c']) [] (l.take (i + 1)) A' E' w') → wpList Tryz.prog ops Q rest (ac.put o.dst v') w') → wpList Tryz.prog ops Q (o :: rest) ac (w3.alloc (.cells c' 69))) := fun ops rest o ac Q s y h1 h2 h3 h4 h5 =>
        append_g infoTp3 Tryz.underlying49 rfl (by decide) (by decide) h1 h2 h3 HX4.out.o h4 (heap_alloc_new w3 _) HZ9.out H1C.out HLL.out HAL.out (fun v' w' h6 h7 h8 => h5 v' w' ⟨_, _, by rw [HTK.out]; exact HX4.out.app h7 h6 h8 HZ9.out HK4.out HWL.out HLH.out HLO.out HVB.out⟩)
      clear hP hb3 hb4 HCL HC2 HXi HLH HLO HVB
      go_wp2_with (first
        | (refine row1 infoTp3 Tryz.underlying49 (by decide) (by decide) rfl rfl rfl (c := c') rfl HZ9.out ?_)
        | (refine HAP.out _ _ _ _ _ _ _ rfl rfl rfl rfl ?_; intro v' w' hr'))
      obtain ⟨A', E', hr'⟩ := hr'
      obtain ⟨a2, n2, c2, rfl⟩ : ∃ a n c, v' = .slice a n c := by obtain ⟨a, c, h, _⟩ := own_formG hr'.o; exact ⟨a, _, c, h⟩
      have HR' := hide hr'
      clear hr' HAP HX4 HK4
      go_wp2_with fail
      go_roundw
      case rel => exact ⟨i + 1, _, _, _, _, _, _, by omega, rfl, by go_num, HR'⟩
      case measure => simp [intOf]; omega
    · have g1 : ¬ (i : Int) < (l.length : Int) := by omega
      have HX2 : Hid (Lty w (.slice a0 n0 c0) L (List.replicate 0 mkT) l A E wr) := by have h := HXi.out; rw [List.take_of_length_le (by omega)] at h; exact h
      clear HXi HF
      go_wp2_with fail
      go_loopw [3, 5] (fun vo vi wx => ∃ (k : Nat) (a0 : Option Addr) (n0 c0 : Nat), k ≤ 9 ∧ vo = .slice a0 n0 c0 ∧ vi = .int .i64 (k : Nat) ∧ Hid (Lty w (.slice a0 n0 c0) L (List.replicate k mkT) l A E wx)) (fun _ vi _ => 9 - (intOf vi).toNat)
      case atStart => exact ⟨0, _, _, _, by omega, rfl, rfl, HX2⟩
      case round =>
        rename World => wz
        obtain ⟨k, a1, n1, c1, hk, rfl, rfl, HXk⟩ := hrel
        clear HX2
        by_cases hlt9 : k < 9
        · as_aux_lemma =>
          have g2 : (k : Int) < 9 := by omega
          have HX4 := hide (HXk.out.next (below_alloc4 wz (.cells mkT 69)))
          have HLN := hide HXk.out.n
          have HLL : Hid ((L ++ List.replicate k mkT).length ≤ 1000000) := by have := HLN.out; show _ ≤ _; simp; omega
          have HAL : Hid (w.heap.size ≤ (wz.alloc (.cells mkT 69)).heap.size) := HX4.out.b.size
          have HAP : Hid (∀ (ops : Array Oper) (rest : List Oper) (o : Oper) (ac : Act) (Q : Exit → Act → World → Prop) (s y : Operand), o.guard = none → o.op = .call { callee := .builtin .append, args := #[s, y], argTypes := #[49, 49] } → ac.eval s = .slice a1 n1 c1 → ac.eval y = .slice (some ⟨wz.heap.size, 0, none⟩) 1 1 → (∀ v' w', Lty w v' L (List.replicate (k + 1) mkT) l A E w' → wpList Tryz.prog ops Q rest (ac.put o.dst v') w') → wpList Tryz.prog ops Q (o :: rest) ac (wz.alloc (.cells mkT 69))) := fun ops rest o ac Q s y h1 h2 h3 h4 h5 =>
            append_g infoTp3 Tryz.underlying49 rfl (by decide) (by decide) h1 h2 h3 HX4.out.o h4 (heap_alloc_new wz _) rfl mkT_one HLL.out HAL.out (fun v' w' h6 h7 h8 => h5 v' w' (by rw [List.replicate_succ']; exact HX4.out.mark h7 h6 h8))
          clear HXk HLN
          go_wp2_with (first
            | (refine row1 infoTp3 Tryz.underlying49 (by decide) (by decide) rfl rfl rfl (c := mkT) rfl rfl ?_)
            | (refine HAP.out _ _ _ _ _ _ _ rfl rfl rfl rfl ?_; intro v' w' hr'))
          obtain ⟨a2, n2, c2, rfl⟩ : ∃ a n c, v' = .slice a n c := by obtain ⟨a, c, h, _⟩ := own_formG hr'.o; exact ⟨a, _, c, h⟩
          have HR' := hide hr'
          clear hr' HAP HX4
          go_wp2_with fail
          go_roundw
          case rel => exact ⟨k + 1, _, _, _, by omega, rfl, by go_num, HR'⟩
          case measure => simp [intOf]; omega
        · as_aux_lemma =>
          have g2 : ¬ (k : Int) < 9 := by omega
          have hk9 : k = 9 := by omega
          subst hk9
          have ho := HXk.out.o
          rw [List.length_append, List.length_replicate, HXk.out.n] at ho
          rcases id ho.2 with ⟨_, h0⟩ | ⟨g, cap', cur, hv, -, -, h1, -⟩
          · omega
          injection hv with e1 e2 e3
          subst e1
          subst e2
          subst e3
          have HO2 := hide ho
          have h2' : l.length ≤ c1 := by omega
          clear ho h1 cur
          go_wp2_with fail
          go_ret
          exact ⟨g, c1, rfl, L, A, E, ⟨HO2.out, HXk.out.n, HXk.out.z, fun i hi => (HXk.out.a i hi).1, HXk.out.d, fun i hi => HXk.out.g i g hi rfl, HXk.out.k, hl⟩, HXk.out.b, (HO2.out.lt g rfl).2, fun i hi => (HXk.out.a i hi).2⟩
end
section
open Go.RowKit Go
theorem sl_blkG {g n c q : Nat} (h : (Value.slice (some ⟨g, 0, none⟩) n c).ownBlock = some q) : q = g := (Option.some.inj h).symm
theorem own_neG {w : World} {B B' g g' n n' c c' m m' s s' : Nat} {e e' : TypeId} {xs ys : List Value} (h : w.ownsRow B e s (.slice (some ⟨g, 0, none⟩) m c) n xs) (h' : w.ownsRow B' e' s' (.slice (some ⟨g', 0, none⟩) m' c') n' ys) (hne : e ≠ e') : g ≠ g' := fun hg => by
  subst hg
  rcases h.2 with ⟨q, _⟩ | ⟨g1, c1, cur1, q, _, h1, _⟩
  · cases q
  rcases h'.2 with ⟨q', _⟩ | ⟨g2, c2, cur2, q', _, h2, _⟩
  · cases q'
  injection q with q _ _
  injection q with q
  injection q with q _ _
  injection q' with q' _ _
  injection q' with q'
  injection q' with q' _ _
  subst q
  subst q'
  rw [h1] at h2
  injection h2 with h2
  injection h2 with _ h2 _
  exact hne h2
set_option maxRecDepth 1000000 in
set_option maxHeartbeats 2000000 in
theorem overT_any {w : World} {lo hi : Nat} {t : Tp} {c : Array Value} (h : Ltp w lo hi t c) : Calls Tryz.prog 21 #[.agg c] w fun e w' => e = .returned (.tuple #[]) ∧ Kp (fun q => lo ≤ q ∧ q < hi) w w' := by
  have hln := h.ln
  obtain ⟨⟨vf, vc, vw, rfl, hF, hC, hW, hq⟩, _, _, _⟩ := h
  have hFa := hF.all
  have hCa := hC.all
  obtain ⟨⟨gf, cf, hvf, oF⟩, _, _⟩ := hF
  obtain ⟨⟨gc, cc, hvc, oC⟩, _, _⟩ := hC
  obtain ⟨⟨gw, cw, hvw, oW⟩, _, _⟩ := hW
  rw [List.length_map] at hvf hvc oF oC
  subst hvf
  subst hvc
  subst hvw
  have hqf := hq gf (.inl rfl)
  have hqc := hq gc (.inr (.inl rfl))
  have hqw := hq gw (.inr (.inr rfl))
  have hfw := (oF.lt gf rfl).2
  have hcw := (oC.lt gc rfl).2
  have hww := (oW.lt gw rfl).2
  have nfc := own_neG oF oC (by decide)
  have nfw := own_neG oF oW (by decide)
  have ncw := own_neG oC oW (by decide)
  unfold tpc
  obtain ⟨W, hW2⟩ : ∃ W, W = w.alloc (.cells #[.string t.n, .int .i64 t.k, .int .i64 t.lo, .int .i64 t.hi, .string t.r.n, .bool t.r.z, .slice (some ⟨gf, 0, none⟩) t.fs.length cf, .slice (some ⟨gc, 0, none⟩) t.cs.length cc, .slice (some ⟨gw, 0, none⟩) t.ws.length cw] 69) := ⟨_, rfl⟩
  have HA : Hid (W.heap[w.heap.size]? = some (.cells #[.string t.n, .int .i64 t.k, .int .i64 t.lo, .int .i64 t.hi, .string t.r.n, .bool t.r.z, .slice (some ⟨gf, 0, none⟩) t.fs.length cf, .slice (some ⟨gc, 0, none⟩) t.cs.length cc, .slice (some ⟨gw, 0, none⟩) t.ws.length cw] 69 (0, 0))) := by rw [hW2]; exact heap_alloc_new w _
  have HK : Hid (Kp (fun q => lo ≤ q ∧ q < hi) w W) := by rw [hW2]; exact (Kp.refl _ w).alloc _
  have HOF := hide ((Kp.of_below (S := fun _ => False) (below_alloc4 w (.cells #[.string t.n, .int .i64 t.k, .int .i64 t.lo, .int .i64 t.hi, .string t.r.n, .bool t.r.z, .slice (some ⟨gf, 0, none⟩) t.fs.length cf, .slice (some ⟨gc, 0, none⟩) t.cs.length cc, .slice (some ⟨gw, 0, none⟩) t.ws.length cw] 69))).owns oF (fun _ _ e => e))
  have HOC := hide ((Kp.of_below (S := fun _ => False) (below_alloc4 w (.cells #[.string t.n, .int .i64 t.k, .int .i64 t.lo, .int .i64 t.hi, .string t.r.n, .bool t.r.z, .slice (some ⟨gf, 0, none⟩) t.fs.length cf, .slice (some ⟨gc, 0, none⟩) t.cs.length cc, .slice (some ⟨gw, 0, none⟩) t.ws.length cw] 69))).owns oC (fun _ _ e => e))
  have HOW := hide ((Kp.of_below (S := fun _ => False) (below_alloc4 w (.cells #[.string t.n, .int .i64 t.k, .int .i64 t.lo, .int .i64 t.hi, .string t.r.n, .bool t.r.z, .slice (some ⟨gf, 0, none⟩) t.fs.length cf, .slice (some ⟨gc, 0, none⟩) t.cs.length cc, .slice (some ⟨gw, 0, none⟩) t.ws.length cw] 69))).owns oW (fun _ _ e => e))
  rw [← hW2] at HOF HOC HOW
  have HFa := hide hFa
  have HCa := hide hCa
  clear oF oC oW hq hFa hCa
  go_enter Tryz.func21, Tryz.ntmps21
  go_upto_region 1 with fail
  rw [← hW2]
  clear hW2
  have a6 : W.cell? ⟨w.heap.size, 6, none⟩ = some (.slice (some ⟨gf, 0, none⟩) t.fs.length cf) := blk_cell (j := 6) HA.out rfl
  go_wp2_with fail
  refine (overF_any (L := t.fs.map fdc ++ List.replicate 9 mkF) HOF.out (by simp) HFa.out (by omega) (by omega)).mono ?_
  rintro e w2 ⟨rfl, hk2⟩
  have HA2 := hide ((hk2.block _ (blk_lt HA.out) (fun e => by omega)).trans HA.out)
  have HK2 : Hid (Kp (fun q => lo ≤ q ∧ q < hi) w w2) := HK.out.trans hk2 (fun q _ e => by omega)
  have HOC2 := hide (hk2.owns HOC.out (fun q e e2 => by have := sl_blkG e; omega))
  have HOW2 := hide (hk2.owns HOW.out (fun q e e2 => by have := sl_blkG e; omega))
  clear hk2 HA HK HOF HOC HOW a6
  have a7 : w2.cell? ⟨w.heap.size, 7, none⟩ = some (.slice (some ⟨gc, 0, none⟩) t.cs.length cc) := blk_cell (j := 7) HA2.out rfl
  go_wp2_with fail
  refine (overC_any (L := t.cs.map czc ++ List.replicate 9 mkC) HOC2.out (by simp) HCa.out (by omega) (by omega)).mono ?_
  rintro e w3 ⟨rfl, hk3⟩
  have HA3 := hide ((hk3.block _ (blk_lt HA2.out) (fun e => by omega)).trans HA2.out)
  have HK3 : Hid (Kp (fun q => lo ≤ q ∧ q < hi) w w3) := HK2.out.trans hk3 (fun q _ e => by omega)
  have HOW3 := hide (hk3.owns HOW2.out (fun q e e2 => by have := sl_blkG e; omega))
  clear hk3 HA2 HK2 HOC2 HOW2 a7
  have a8 : w3.cell? ⟨w.heap.size, 8, none⟩ = some (.slice (some ⟨gw, 0, none⟩) t.ws.length cw) := blk_cell (j := 8) HA3.out rfl
  go_wp2_with fail
  refine (overTexts_any HOW3.out (by omega) (by omega)).mono ?_
  rintro e w4 ⟨rfl, hk4⟩
  have HK4 : Hid (Kp (fun q => lo ≤ q ∧ q < hi) w w4) := HK3.out.trans hk4 (fun q _ e => by omega)
  clear hk4 HA3 HK3 HOW3 a8
  go_wp2_with fail
  go_end0
  exact ⟨rfl, HK4.out⟩
def ovT : Array Value := #[.string ⟨#[]⟩, .int .i64 778, .int .i64 0, .int .i64 0, .string ⟨#[]⟩, .bool false, .slice none 0 0, .slice none 0 0, .slice none 0 0]
def ovp : Tp := ⟨⟨#[]⟩, 778, 0, 0, zrf, [], [], []⟩
theorem ovT_one : ∀ u ∈ ovT.toList, u.oneCell' = true := fun u hu => by
  simp only [ovT, List.mem_cons, List.not_mem_nil, or_false] at hu
  rcases hu with rfl | rfl | rfl | rfl | rfl | rfl | rfl | rfl | rfl <;> rfl
theorem ovp_tpi (w : World) : Tpi w ovp ovT := ⟨⟨.slice none 0 0, .slice none 0 0, .slice none 0 0, rfl, GSl.nil, GSl.nil, ⟨⟨none, 0, rfl, ⟨Nat.le_refl _, fun _ => rfl⟩, .inl rfl⟩, Nat.zero_le _, fun _ h => by cases h⟩⟩, ⟨by show (ByteArray.mk #[]).size ≤ _; decide, by show (ByteArray.mk #[]).size ≤ _; decide, ⟨by show (-9223372036854775808 : Int) ≤ 778; decide, by show (778 : Int) ≤ _; decide⟩, ⟨by show (-9223372036854775808 : Int) ≤ 0; decide, by show (0 : Int) ≤ _; decide⟩, ⟨by show (-9223372036854775808 : Int) ≤ 0; decide, by show (0 : Int) ≤ _; decide⟩⟩⟩
structure Ovt (w wr : World) (B g cap : Nat) (L : List (Array Value)) (ts : List Tp) (A E : Nat → Nat) (k : Nat) : Prop where
  o : ∃ L', wr.ownsRow B 69 9 (.slice (some ⟨g, 0, none⟩) (ts.length + 9) cap) (ts.length + 9) (gfl (L' ++ List.replicate 9 mkT)) ∧ L'.length = ts.length ∧ (∀ c ∈ L', c.size = 9) ∧ (∀ j, k ≤ j → L'[j]? = L[j]?) ∧ ∀ j, j < k → L'[j]? = some ovT
  v : ∀ (i : Nat) (t : Tp) (c : Array Value), k ≤ i → ts[i]? = some t → L[i]? = some c → Ltp wr (A i) (E i) t c
  k : Kp (fun q => q = g ∨ ∃ i, i < ts.length ∧ A i ≤ q ∧ q < E i) w wr
theorem Ovt.start {w : World} {B g cap : Nat} {L : List (Array Value)} {ts : List Tp} {A E : Nat → Nat} (h : Ltr w B g cap L ts A E) : Ovt w w B g cap L ts A E 0 :=
  ⟨⟨L, h.o, h.n, h.z, fun _ _ => rfl, fun j hj => absurd hj (by omega)⟩, fun i t c _ h1 h2 => h.k i t c h1 h2, Kp.refl _ _⟩
theorem all9 {L : List (Array Value)} (h : ∀ c ∈ L, c.size = 9) : ∀ c ∈ L ++ List.replicate 9 mkT, c.size = 9 := fun c hc => by
  rcases List.mem_append.1 hc with hc | hc
  · exact h c hc
  · rw [List.eq_of_mem_replicate hc]; rfl
theorem Ovt.step {w wr w5 w6 : World} {B g cap : Nat} {L : List (Array Value)} {ts : List Tp} {A E : Nat → Nat} {k : Nat} {cur : Array Value} (h0 : Ltr w B g cap L ts A E) (h : Ovt w wr B g cap L ts A E k) (hk : k < ts.length) (h5 : Kp (fun q => A k ≤ q ∧ q < E k) wr w5)
    (hc : w5.heap[g]? = some (.cells cur 69 (0, 0))) (h6 : w6.heap[g]? = some (.cells (splice cur.toList (k * 9) ovT.toList).toArray 69 (0, 0))) (hk6 : Kp (fun q => q = g) w5 w6) : Ovt w w6 B g cap L ts A E (k + 1) := by
  obtain ⟨L1, ho, hn, hs, he, hv⟩ := h.o
  have hlo : B ≤ g := (ho.lt g rfl).1
  have hgi := h0.g k hk
  have hab := h0.a k hk
  have ho5 := h5.owns ho (fun q hq e => by have e2 := sl_blkG hq; omega)
  have ho6 := own_partG (c' := ovT) (j := k) ho5 (by simp [hn]) (all9 hs) hc (by omega) rfl h6
  rw [List.set_append_left _ _ (by omega)] at ho6
  refine ⟨⟨L1.set k ovT, ho6, by simp [hn], fun c hc => ?_, fun j hj => ?_, fun j hj => ?_⟩, fun i u c hi h1 h2 => ?_, (h.k.trans h5 (fun q _ e => .inr ⟨k, hk, e⟩)).trans hk6 (fun q _ e => .inl e)⟩
  · rcases List.mem_or_eq_of_mem_set hc with e | e
    · exact hs c e
    · rw [e]; rfl
  · rw [List.getElem?_set_ne (by omega)]
    exact he j (by omega)
  · by_cases e : j = k
    · subst e
      rw [List.getElem?_set_self (by omega)]
    · rw [List.getElem?_set_ne (by omega)]
      exact hv j (by omega)
  · have hil := (List.getElem?_eq_some_iff.1 h1).1
    have hd := h0.d k i (by omega) hil
    have ho := h0.g i hil
    exact ((h.v i u c (by omega) h1 h2).kp h5 (fun q e1 e2 e => by omega)).kp hk6 (fun q e1 e2 e => by omega)
theorem Ovt.tsl {w wr : World} {B g cap : Nat} {L : List (Array Value)} {ts : List Tp} {A E : Nat → Nat} (hm : ts.length ≤ 1000) (h : Ovt w wr B g cap L ts A E ts.length) : TSl wr (.slice (some ⟨g, 0, none⟩) ts.length cap) (List.replicate ts.length ovp) := by
  obtain ⟨L1, ho, hn, hs, _, hv⟩ := h.o
  rw [← hn] at ho
  obtain ⟨h1, _, h3⟩ := Lgs.at ho (all9 hs)
  have hl : (List.replicate ts.length ovp).length = ts.length := List.length_replicate
  refine ⟨⟨_, cap, by rw [hl], ⟨by omega, fun e => by cases e⟩, .inr ⟨g, 0, rfl, fun i t ht => ?_⟩⟩, by omega⟩
  have hil := (List.getElem?_eq_some_iff.1 ht).1
  rw [hl] at hil
  have e : t = ovp := List.eq_of_mem_replicate (List.mem_of_getElem? ht)
  subst e
  refine ⟨ovT, ovp_tpi _, fun j u hu => ?_⟩
  rw [Nat.zero_add]
  exact h1 i ovT (hv i hil) j u hu
set_option maxRecDepth 1000000 in
set_option maxHeartbeats 2000000 in
theorem overTso_any {w : World} {B g cap : Nat} {L : List (Array Value)} {ts : List Tp} {A E : Nat → Nat} (h : Ltr w B g cap L ts A E) : Calls Tryz.prog 8 #[.slice (some ⟨g, 0, none⟩) ts.length cap] w fun e w' => e = .returned (.tuple #[]) ∧ Hid (TSl w' (.slice (some ⟨g, 0, none⟩) ts.length cap) (List.replicate ts.length ovp) ∧ Kp (fun q => q = g ∨ ∃ i, i < ts.length ∧ A i ≤ q ∧ q < E i) w w') := by
  have HH := hide h
  have hm := h.m
  clear h
  have HI := hide infoTp
  have HA : Hid (∀ w, (isAgg 69).run Tryz.prog w = .ok true w) := aggTp
  go_enter Tryz.func8, Tryz.ntmps8
  go_wp2_with fail
  go_loopw [2] (fun ii wr => ∃ k : Nat, k ≤ ts.length ∧ ii = .int .i64 (k : Nat) ∧ Hid (Ovt w wr B g cap L ts A E k)) (fun ii _ => ts.length - (intOf ii).toNat)
  case atStart => exact ⟨0, by omega, rfl, Ovt.start HH.out⟩
  case round =>
    rename World => wr
    obtain ⟨k, hk, rfl, HV⟩ := hrel
    by_cases hlt : k < ts.length
    · have g1 : (k : Int) < (ts.length : Int) := by omega
      obtain ⟨t, ht⟩ : ∃ t, ts[k]? = some t := ⟨ts[k], List.getElem?_eq_getElem hlt⟩
      obtain ⟨c, hc⟩ : ∃ c, L[k]? = some c := ⟨L[k]'(by rw [HH.out.n]; exact hlt), List.getElem?_eq_getElem _⟩
      obtain ⟨L1, ho, hn, hs, he, -⟩ := HV.out.o
      have ho2 := ho
      rw [← hn] at ho2
      have HCC : Hid (∀ j x, c[j]? = some x → wr.cell? ⟨g, k * 9 + j, none⟩ = some x) := fun j x hx => (Lgs.at ho2 (all9 hs)).1 k c (by rw [he k (Nat.le_refl _)]; exact hc) j x hx
      have HCS : Hid (c.size = 9) := HH.out.z c (List.mem_of_getElem? hc)
      have HCA := hide (overT_any (HV.out.v k t c (Nat.le_refl _) ht hc))
      obtain ⟨cur, hcur, hcz⟩ := own_cur ho
      have HCU := hide hcur
      have hcz2 : k * 9 + 9 ≤ cur.size := by omega
      clear ht hc ho ho2 hn hs he hcur hcz L1
      go_wp2_with (refine wpList_aggAt rfl rfl HI.out HA.out g (k * 9) c rfl HCS.out HCC.out ?_)
      refine HCA.out.mono ?_
      rintro e w5 ⟨rfl, hk5⟩
      have hab := HH.out.a k hlt
      have hoi := HH.out.g k hlt
      have hcur5 : w5.heap[g]? = some (.cells cur 69 (0, 0)) := (hk5.block _ (blk_lt HCU.out) (fun e => by omega)).trans HCU.out
      have HST : Hid (∀ w6 : World, w6.heap[g]? = some (.cells (splice cur.toList (k * 9) ovT.toList).toArray 69 (0, 0)) → Kp (fun q => q = g) w5 w6 → Ovt w w6 B g cap L ts A E (k + 1)) := fun w6 h6 hk6 => HV.out.step HH.out hlt hk5 hcur5 h6 hk6
      have HC5 : Hid (w5.heap[g]? = some (.cells cur.toList.toArray 69 (0, 0))) := hcur5
      have HLT : Hid (k * 9 + 9 ≤ cur.toList.length) := by show _ ≤ _; rw [Array.length_toList]; exact hcz2
      clear hk5 HCU hcz2 hab hoi hcur5 HCA HCC HV
      go_wp2_with (refine wpList_storePart rfl rfl g (k * 9) cur.toList ovT.toList 69 rfl rfl HC5.out infoTp HLT.out ovT_one ?_)
      intro w6 h6 hk6
      have HI6 := hide (HST.out w6 h6.out hk6.out)
      clear h6 hk6 HST
      go_wp2_with fail
      go_roundw
      case rel => exact ⟨k + 1, by omega, by go_num, HI6⟩
      case measure => simp [intOf]; omega
    · have g1 : ¬ (k : Int) < (ts.length : Int) := by omega
      have hkn : k = ts.length := by omega
      have HV2 : Hid (Ovt w wr B g cap L ts A E ts.length) := by rw [← hkn]; exact HV.out
      clear HV hkn
      go_wp2_with fail
      go_end0
      exact ⟨rfl, HV2.out.tsl hm, HV2.out.k⟩
end
section
open Go.RowKit Go
def nBool : ByteArray := ⟨#[98, 111, 111, 108]⟩
def nInt : ByteArray := ⟨#[105, 110, 116]⟩
def nFloat : ByteArray := ⟨#[102, 108, 111, 97, 116]⟩
def nSingle : ByteArray := ⟨#[115, 105, 110, 103, 108, 101]⟩
def nText : ByteArray := ⟨#[116, 101, 120, 116]⟩
def nBytes : ByteArray := ⟨#[98, 121, 116, 101, 115]⟩
theorem bool_l : nBool.toList = [98, 111, 111, 108] := by rw [ByteArray.toList_eq]; rfl
theorem int_l : nInt.toList = [105, 110, 116] := by rw [ByteArray.toList_eq]; rfl
theorem float_l : nFloat.toList = [102, 108, 111, 97, 116] := by rw [ByteArray.toList_eq]; rfl
theorem single_l : nSingle.toList = [115, 105, 110, 103, 108, 101] := by rw [ByteArray.toList_eq]; rfl
theorem text_l : nText.toList = [116, 101, 120, 116] := by rw [ByteArray.toList_eq]; rfl
theorem bytes_l : nBytes.toList = [98, 121, 116, 101, 115] := by rw [ByteArray.toList_eq]; rfl
theorem own_last {s : ByteArray} (h : (ownK s).isSome = true) (h1 : s ≠ nAny) (h2 : s ≠ nNull) (h3 : s ≠ nBool) (h4 : s ≠ nInt) (h5 : s ≠ nFloat) (h6 : s ≠ nSingle) (h7 : s ≠ nText) (h8 : s ≠ nBytes) : ownK s = some 7 := by
  obtain ⟨k, hk⟩ := Option.isSome_iff_exists.1 h
  have hk2 := hk
  unfold ownK at hk
  obtain ⟨p, hp, rfl⟩ := Option.map_eq_some_iff.1 hk
  have hm := List.mem_of_find?_eq_some hp
  have he : p.1 = s := by simpa using List.find?_some hp
  simp only [owns, List.mem_cons, List.not_mem_nil, or_false] at hm
  rcases hm with rfl | rfl | rfl | rfl | rfl | rfl | rfl | rfl | rfl
  · exact absurd he.symm h1
  · exact absurd he.symm h2
  · exact absurd he.symm h3
  · exact absurd he.symm h4
  · exact absurd he.symm h5
  · exact absurd he.symm h6
  · exact absurd he.symm h7
  · exact absurd he.symm h8
  · exact hk2
theorem ckd_own {l : List Tp} (F : Fst l) {s : ByteArray} {k : Nat} (hp : plc l (flr l s).1 = none) (hk : ownK (flr l s).1 = some k) : ckd l s = k := by
  unfold ckd
  rw [flo_flr F]
  simp only
  rw [fnd_none_1 hp (by rw [hk]; rfl)]
  unfold knd otp
  simp [hk]
theorem ckd_typ {l : List Tp} (F : Fst l) {s : ByteArray} {i : Nat} {t : Tp} (hp : plc l (flr l s).1 = some i) (ht : l[i]? = some t) : ckd l s = knd t := by
  unfold ckd
  rw [flo_flr F]
  simp only
  rw [fnd_some hp ht]
theorem dec_eq {a k c : Nat} (h : a = c) : ((k : Int) == (c : Int)) = decide (a = k) := by
  rw [Bool.eq_iff_iff, beq_iff_eq, decide_eq_true_eq]
  omega
set_option maxRecDepth 1000000 in
set_option maxHeartbeats 2000000 in
theorem takes11_any (w : World) (v : Value) (l : List Tp) (hv : TSl w v l) (F : Fst l) (s : ByteArray) (hs : Cok l s) (k : Nat) : Calls Tryz.prog 113 #[v, .string s, .int .i64 (k : Nat)] w fun e w' => e = .returned (.bool (decide (ckd l s = k))) ∧ w' = w := by
  have hmax := hv.max
  have HFO := hide (follow11_any w v l hv s)
  rw [hs.ends, hs.null] at HFO
  have HPL := hide (place11_any w v l hv (flr l s).1)
  obtain ⟨⟨a, cap, rfl, hn, hc⟩, _⟩ := hv
  have HC := hide hc
  have HF := hide F
  have HS := hide hs
  clear hc hn F hs
  obtain ⟨D, hD⟩ : ∃ D, decide (ckd l s = k) = D := ⟨_, rfl⟩
  rw [hD]
  have HD := hide hD
  clear hD
  obtain ⟨E, hE⟩ : ∃ E, (flr l s).1 = E := ⟨_, rfl⟩
  rw [hE] at HFO HPL
  have HE := hide hE
  clear hE
  obtain ⟨b1, hb1⟩ : ∃ b, ((k : Int) == 1) = b := ⟨_, rfl⟩
  go_enter Tryz.func113, Tryz.ntmps113
  go_upto_region 2 with (go_at_call 23; refine HFO.out.mono ?_; rintro e wq ⟨rfl, hwq⟩; have hwq := hwq.symm; subst hwq)
  go_cut [23] from 19 to 24 (fun v wx => v = .bool false ∧ wx = w)
  case first =>
    cases b1 <;> (
      go_wp2_with fail
      go_meet
      case rel => exact ⟨rfl, rfl⟩)
  obtain ⟨rfl, hww⟩ := hcut
  have hww := hww.symm
  subst hww
  clear hb1
  cases hp : plc l E with
  | none =>
    have HPE : Hid (pli l E = -1) := by show _ = _; unfold pli; rw [hp]
    rw [HPE.out] at HPL
    have HP : Hid (plc l (flr l s).1 = none) := by show _ = _; rw [HE.out]; exact hp
    obtain ⟨n1, n2⟩ := HS.out.fen.null HP.out HS.out.null
    have hio : (ownK E).isSome = true := by
      have h1 := HS.out.fen.known
      rw [fnd_none_2 HP.out, HE.out] at h1
      exact h1
    rw [HE.out] at n1 n2
    have HCK : Hid (∀ c, ownK E = some c → ((k : Int) == (c : Int)) = D) := fun c hc => by
      rw [← HD.out]
      exact dec_eq (ckd_own HF.out HP.out (by rw [HE.out]; exact hc))
    have HIO := hide hio
    clear hp hio
    have e1 : (E.toList == [97, 110, 121]) = false := by have := str_no n1; rw [any_list] at this; exact this
    have e2 : (E.toList == [110, 117, 108, 108]) = false := by have := str_no n2; rw [null_list] at this; exact this
    by_cases n3 : E = nBool
    · as_aux_lemma =>
      have e3 : (E.toList == [98, 111, 111, 108]) = true := by rw [n3, bool_l]; rfl
      have gk := HCK.out 2 (by rw [n3]; decide)
      clear n1 n2 n3
      go_wp2_with (go_at_call 56; refine HPL.out.mono ?_; rintro e wq ⟨rfl, hwq⟩; have hwq := hwq.symm; subst hwq)
      go_ret
      exact ⟨by rw [← gk] <;> rfl, rfl⟩
    have e3 : (E.toList == [98, 111, 111, 108]) = false := by have := str_no n3; rw [bool_l] at this; exact this
    by_cases n4 : E = nInt
    · as_aux_lemma =>
      have e4 : (E.toList == [105, 110, 116]) = true := by rw [n4, int_l]; rfl
      have gk := HCK.out 3 (by rw [n4]; decide)
      clear n1 n2 n3 n4
      go_wp2_with (go_at_call 56; refine HPL.out.mono ?_; rintro e wq ⟨rfl, hwq⟩; have hwq := hwq.symm; subst hwq)
      go_ret
      exact ⟨by rw [← gk] <;> rfl, rfl⟩
    have e4 : (E.toList == [105, 110, 116]) = false := by have := str_no n4; rw [int_l] at this; exact this
    by_cases n5 : E = nFloat
    · as_aux_lemma =>
      have e5 : (E.toList == [102, 108, 111, 97, 116]) = true := by rw [n5, float_l]; rfl
      have gk := HCK.out 4 (by rw [n5]; decide)
      clear n1 n2 n3 n4 n5
      go_wp2_with (go_at_call 56; refine HPL.out.mono ?_; rintro e wq ⟨rfl, hwq⟩; have hwq := hwq.symm; subst hwq)
      go_ret
      exact ⟨by rw [← gk] <;> rfl, rfl⟩
    have e5 : (E.toList == [102, 108, 111, 97, 116]) = false := by have := str_no n5; rw [float_l] at this; exact this
    by_cases n6 : E = nSingle
    · as_aux_lemma =>
      have e6 : (E.toList == [115, 105, 110, 103, 108, 101]) = true := by rw [n6, single_l]; rfl
      have gk := HCK.out 4 (by rw [n6]; decide)
      clear n1 n2 n3 n4 n5 n6
      go_wp2_with (go_at_call 56; refine HPL.out.mono ?_; rintro e wq ⟨rfl, hwq⟩; have hwq := hwq.symm; subst hwq)
      go_ret
      exact ⟨by rw [← gk] <;> rfl, rfl⟩
    have e6 : (E.toList == [115, 105, 110, 103, 108, 101]) = false := by have := str_no n6; rw [single_l] at this; exact this
    by_cases n7 : E = nText
    · as_aux_lemma =>
      have e7 : (E.toList == [116, 101, 120, 116]) = true := by rw [n7, text_l]; rfl
      have gk := HCK.out 5 (by rw [n7]; decide)
      clear n1 n2 n3 n4 n5 n6 n7
      go_wp2_with (go_at_call 56; refine HPL.out.mono ?_; rintro e wq ⟨rfl, hwq⟩; have hwq := hwq.symm; subst hwq)
      go_ret
      exact ⟨by rw [← gk] <;> rfl, rfl⟩
    have e7 : (E.toList == [116, 101, 120, 116]) = false := by have := str_no n7; rw [text_l] at this; exact this
    by_cases n8 : E = nBytes
    · as_aux_lemma =>
      have e8 : (E.toList == [98, 121, 116, 101, 115]) = true := by rw [n8, bytes_l]; rfl
      have gk := HCK.out 6 (by rw [n8]; decide)
      clear n1 n2 n3 n4 n5 n6 n7 n8
      go_wp2_with (go_at_call 56; refine HPL.out.mono ?_; rintro e wq ⟨rfl, hwq⟩; have hwq := hwq.symm; subst hwq)
      go_ret
      exact ⟨by rw [← gk] <;> rfl, rfl⟩
    as_aux_lemma =>
      have e8 : (E.toList == [98, 121, 116, 101, 115]) = false := by have := str_no n8; rw [bytes_l] at this; exact this
      have gk := HCK.out 7 (own_last HIO.out n1 n2 n3 n4 n5 n6 n7 n8)
      clear n1 n2 n3 n4 n5 n6 n7 n8
      go_wp2_with (go_at_call 56; refine HPL.out.mono ?_; rintro e wq ⟨rfl, hwq⟩; have hwq := hwq.symm; subst hwq)
      go_ret
      exact ⟨by rw [← gk] <;> rfl, rfl⟩
  | some j =>
    have HPE : Hid (pli l E = (j : Nat)) := by show _ = _; unfold pli; rw [hp]
    rw [HPE.out] at HPL
    have HP : Hid (plc l (flr l s).1 = some j) := by show _ = _; rw [HE.out]; exact hp
    obtain ⟨t, ht, htn⟩ := plc_lt hp
    have hjl : j < l.length := (List.getElem?_eq_some_iff.1 ht).1
    have g2 : (j : Int) < (l.length : Int) := by omega
    have g3 : ¬ (j : Int) < 0 := by omega
    obtain ⟨b, off, rfl, hcc⟩ := HC.out.resolve_left (fun h => by rw [h] at hjl; simp at hjl)
    obtain ⟨c, ⟨⟨vf, vc, vw, rfl, _⟩, _⟩, hcell⟩ := hcc j t ht
    have q1 := hcell 1 (.int .i64 t.k) rfl
    have hk1 : t.k ≠ 1 := by have h1 := HS.out.fen.kind; rw [fnd_some HP.out ht] at h1; exact h1
    have hk8 : t.k ≠ 8 := by have h1 := HS.out.one; rw [fnd_some HP.out ht] at h1; exact h1
    have htd := HF.out.tdy t (List.mem_of_getElem? ht)
    rw [tdy_len, Bool.and_eq_true, decide_eq_true_eq] at htd
    have HCK : Hid (∀ c, knd t = c → ((k : Int) == (c : Int)) = D) := fun c hc => by
      rw [← HD.out]
      exact dec_eq ((ckd_typ HF.out HP.out ht).trans hc)
    obtain ⟨hkr, _⟩ := htd
    clear hp ht htn hcc hcell
    by_cases k2 : t.k = 2
    · as_aux_lemma =>
      have g4 : (t.k == 2) = true := beq_iff_eq.2 k2
      have gk := HCK.out 3 (by unfold knd; rw [if_pos k2])
      clear hk1 hk8 hkr k2
      go_wp2_with (go_at_call 56; refine HPL.out.mono ?_; rintro e wq ⟨rfl, hwq⟩; have hwq := hwq.symm; subst hwq)
      go_ret
      exact ⟨by rw [← gk] <;> rfl, rfl⟩
    have g4 : (t.k == 2) = false := beq_eq_false_iff_ne.2 k2
    by_cases k3 : t.k = 3
    · as_aux_lemma =>
      have g5 : (t.k == 3) = true := beq_iff_eq.2 k3
      have gk := HCK.out 8 (by unfold knd; rw [if_neg k2, if_pos (.inl k3)])
      clear hk1 hk8 hkr k2 k3
      go_wp2_with (go_at_call 56; refine HPL.out.mono ?_; rintro e wq ⟨rfl, hwq⟩; have hwq := hwq.symm; subst hwq)
      go_ret
      exact ⟨by rw [← gk] <;> rfl, rfl⟩
    have g5 : (t.k == 3) = false := beq_eq_false_iff_ne.2 k3
    by_cases k6 : t.k = 6
    · as_aux_lemma =>
      have g6 : (t.k == 6) = true := beq_iff_eq.2 k6
      have gk := HCK.out 8 (by unfold knd; rw [if_neg k2, if_pos (.inr k6)])
      clear hk1 hk8 hkr k2 k3 k6
      go_wp2_with (go_at_call 56; refine HPL.out.mono ?_; rintro e wq ⟨rfl, hwq⟩; have hwq := hwq.symm; subst hwq)
      go_ret
      exact ⟨by rw [← gk] <;> rfl, rfl⟩
    have g6 : (t.k == 6) = false := beq_eq_false_iff_ne.2 k6
    by_cases k9 : t.k = 9
    · as_aux_lemma =>
      have g9 : (t.k == 9) = true := beq_iff_eq.2 k9
      have gk := HCK.out 5 (by unfold knd; rw [if_neg k2, if_neg (fun h => h.elim k3 k6), if_neg (by omega), if_pos k9])
      clear hk1 hk8 hkr k2 k3 k6 k9
      go_wp2_with (go_at_call 56; refine HPL.out.mono ?_; rintro e wq ⟨rfl, hwq⟩; have hwq := hwq.symm; subst hwq)
      go_ret
      exact ⟨by rw [← gk] <;> rfl, rfl⟩
    as_aux_lemma =>
      have g9 : (t.k == 9) = false := beq_eq_false_iff_ne.2 k9
      have g8 : (t.k == 8) = false := beq_eq_false_iff_ne.2 hk8
      have gk := HCK.out 9 (by unfold knd; rw [if_neg k2, if_neg (fun h => h.elim k3 k6), if_pos (by omega)])
      clear hk1 hk8 hkr k2 k3 k6 k9
      go_wp2_with (go_at_call 56; refine HPL.out.mono ?_; rintro e wq ⟨rfl, hwq⟩; have hwq := hwq.symm; subst hwq)
      go_ret
      exact ⟨by rw [← gk] <;> rfl, rfl⟩
end
section
open Go.RowKit Go
theorem drop_sl (s : ByteArray) (i : Nat) (h : i < s.size) : (sl s).drop i = s[i].toNat :: (sl s).drop (i + 1) := by
  have hl : i < (sl s).length := by rw [sl_len]; exact h
  rw [List.drop_eq_getElem_cons hl]
  congr 1
  have := sl_at s i h
  rw [List.getD_eq_getElem?_getD, List.getElem?_eq_getElem hl] at this
  exact this
theorem drop_len (s : ByteArray) (i : Nat) : ((sl s).drop i).length = s.size - i := by rw [List.length_drop, sl_len]
theorem drop_get (s : ByteArray) (i k : Nat) (h : i + k < s.size) : ((sl s).drop i).getD k 0 = s[i + k].toNat := by
  rw [← sl_at s (i + k) h, List.getD_eq_getElem?_getD, List.getD_eq_getElem?_getD, List.getElem?_drop]
theorem take_get (r : List Nat) (k : Nat) (h : k < r.length) : r.take (k + 1) = r.take k ++ [r.getD k 0] := by
  rw [List.take_succ_eq_append_getElem h, List.getD_eq_getElem?_getD, List.getElem?_eq_getElem h]
  rfl
structure Gin (s : ByteArray) (i c0 k X : Nat) : Prop where
  x : X = cv c0 (((sl s).drop (i + 1)).take k)
  b : X + 1 ≤ 32 * 64 ^ k
  a : ∀ j, j < k → i + 1 + j < s.size ∧ 128 ≤ ((sl s).drop (i + 1)).getD j 0 ∧ ((sl s).drop (i + 1)).getD j 0 ≤ 191
theorem Gin.start (s : ByteArray) (i c0 : Nat) (h : c0 < 32) : Gin s i c0 0 c0 := ⟨rfl, by rw [Nat.pow_zero]; omega, fun j hj => by omega⟩
theorem Gin.next {s : ByteArray} {i c0 k X p : Nat} (h : Gin s i c0 k X) (hp : p = i + (k + 1)) (hlt : p < s.size) (h1 : 128 ≤ s[p].toNat) (h2 : s[p].toNat ≤ 191) : Gin s i c0 (k + 1) (64 * X + s[p].toNat - 128) := by
  have hq : i + 1 + k < s.size := by omega
  have e : ((sl s).drop (i + 1)).getD k 0 = s[p].toNat := by
    rw [drop_get s (i + 1) k hq]
    congr 2
    omega
  have hl : k < ((sl s).drop (i + 1)).length := by rw [drop_len]; omega
  refine ⟨?_, ?_, fun j hj => ?_⟩
  · rw [take_get _ _ hl, cv_app, e, ← h.x]
  · have := h.b
    rw [Nat.pow_succ]
    omega
  · by_cases hjk : j = k
    · subst hjk
      rw [e]
      exact ⟨hq, h1, h2⟩
    · exact h.a j (by omega)
theorem Gin.fin {s : ByteArray} {i c0 n least X : Nat} (h : Gin s i c0 n X) (hi : i < s.size) (hg : gld s[i].toNat n least c0) : uone ((sl s).drop i) = if X < least ∨ 1114111 < X ∨ (55296 ≤ X ∧ X ≤ 57343) then 0 else n + 1 := by
  have hl : n ≤ ((sl s).drop (i + 1)).length := by
    rw [drop_len]
    rcases n with _ | n
    · omega
    · have := (h.a n (by omega)).1
      omega
  rw [drop_sl s i hi, g_fin hg hl (fun k hk => (h.a k hk).2), ← h.x]
theorem good_bad {s : ByteArray} {i : Nat} {G : Bool} (hi : i < s.size) (h : ugood ((sl s).drop i) = G) (h0 : uone ((sl s).drop i) = 0) : G = false := by
  rw [← h]
  exact ugood_bad (by rw [drop_sl s i hi]; simp) h0
theorem good_step {s : ByteArray} {i n : Nat} {G : Bool} (hi : i < s.size) (h : ugood ((sl s).drop i) = G) (h0 : uone ((sl s).drop i) = n + 1) : ugood ((sl s).drop (i + 1 + n)) = G := by
  have e := ugood_step (b := (sl s).drop i) (by rw [drop_sl s i hi]; simp) (by rw [h0]; omega)
  rw [h0, List.drop_drop] at e
  rw [← h, e]
  congr 2
  omega
theorem gld_c0 {c n least c0 : Nat} (h : gld c n least c0) : c0 < 32 := by unfold gld at h; omega
theorem gld_n {c n least c0 : Nat} (h : gld c n least c0) : n ≤ 3 := by unfold gld at h; omega
theorem gld_n1 {c n least c0 : Nat} (h : gld c n least c0) : 1 ≤ n := by unfold gld at h; omega
theorem gld_least {c n least c0 : Nat} (h : gld c n least c0) : least ≤ 65536 := by unfold gld at h; omega
set_option maxRecDepth 1000000 in
set_option maxHeartbeats 4000000 in
theorem good11_any (w : World) (s : ByteArray) (hs : s.size ≤ 140737488351232) : Calls Tryz.prog 110 #[.string s] w fun e w' => e = .returned (.bool (ugood (sl s))) ∧ w' = w := by
  generalize hG : ugood (sl s) = G
  have HG := hide hG
  clear hG
  go_enter Tryz.func110, Tryz.ntmps110
  go_wp2_with fail
  go_loopw [3] (fun ii wx => ∃ i : Nat, i ≤ s.size ∧ ii = .int .i64 (i : Nat) ∧ Hid (ugood ((sl s).drop i) = G) ∧ wx = w) (fun ii _ => s.size - (intOf ii).toNat)
  case atStart => exact ⟨0, by omega, rfl, by show _ = _; rw [List.drop_zero]; exact HG.out, rfl⟩
  case round =>
    obtain ⟨i, hi, rfl, HD, hww⟩ := hrel
    have hww := hww.symm
    subst hww
    clear HG
    by_cases hlt : i < s.size
    case neg => as_aux_lemma =>
      have m1 : ¬ (i : Int) < (s.size : Int) := by omega
      have HE : Hid (G = true) := by
        show _ = _
        rw [← HD.out, List.drop_eq_nil_of_le (by rw [sl_len]; omega)]
        exact ugood_nil
      go_wp2_with fail
      go_ret
      exact ⟨by rw [HE.out] <;> rfl, rfl⟩
    have m1 : (i : Int) < (s.size : Int) := by omega
    have hc6 : s[i].toNat < 256 := (s[i]).toNat_lt
    by_cases h128 : s[i].toNat < 128
    · as_aux_lemma =>
      have k1 : (s[i].toNat : Int) < 128 := by omega
      have HN : Hid (ugood ((sl s).drop (i + 1 + 0)) = G) := good_step hlt HD.out (by rw [drop_sl s i hlt]; exact uone_ascii _ _ h128)
      go_wp2_with fail
      go_roundw
      case rel => exact ⟨i + 1, by omega, by go_num, HN, trivial⟩
      case measure => simp [intOf]; omega
    have k1 : ¬ (s[i].toNat : Int) < 128 := by omega
    by_cases hbad : s[i].toNat < 194 ∨ 245 ≤ s[i].toNat
    · as_aux_lemma =>
      have HE : Hid (G = false) := good_bad hlt HD.out (by rw [drop_sl s i hlt]; exact g_none (by omega) hbad)
      rcases hbad with hbad | hbad
      · have k2 : ¬ (194 : Int) ≤ (s[i].toNat : Int) := by omega
        have k3 : ¬ (224 : Int) ≤ (s[i].toNat : Int) := by omega
        have k4 : ¬ (240 : Int) ≤ (s[i].toNat : Int) := by omega
        go_wp2_with fail
        go_ret
        exact ⟨by rw [HE.out] <;> rfl, rfl⟩
      · have k2 : (194 : Int) ≤ (s[i].toNat : Int) := by omega
        have k3 : ¬ (s[i].toNat : Int) < 224 := by omega
        have k4 : (224 : Int) ≤ (s[i].toNat : Int) := by omega
        have k5 : ¬ (s[i].toNat : Int) < 240 := by omega
        have k6 : (240 : Int) ≤ (s[i].toNat : Int) := by omega
        have k7 : ¬ (s[i].toNat : Int) < 245 := by omega
        go_wp2_with fail
        go_ret
        exact ⟨by rw [HE.out] <;> rfl, rfl⟩
    go_upto_region 5 with fail
    go_step
    go_step
    go_step
    go_step
    go_step
    go_step
    go_step
    go_step
    go_cut [3, 4, 5, 6] from 16 to 48 (fun vi vc vn vl wx => ∃ n least c0 : Nat, vi = .int .i64 (i : Nat) ∧ vc = .int .i64 (c0 : Nat) ∧ vn = .int .i64 (n : Nat) ∧ vl = .int .i64 (least : Nat) ∧ wx = w ∧ Hid (gld s[i].toNat n least c0))
    case first =>
      by_cases h1 : s[i].toNat < 224
      · as_aux_lemma =>
        have j1 : (194 : Int) ≤ (s[i].toNat : Int) := by omega
        have j2 : (s[i].toNat : Int) < 224 := by omega
        have w0 : (s[i].toNat : Int) - 192 = ((s[i].toNat - 192 : Nat) : Int) := by omega
        have HGL : Hid (gld s[i].toNat 1 128 (s[i].toNat - 192)) := by unfold Hid gld; omega
        generalize s[i].toNat - 192 = c0 at *
        go_wp2_with fail
        go_meet
        case rel => exact ⟨1, 128, c0, rfl, rfl, rfl, rfl, rfl, HGL⟩
      have j1 : (194 : Int) ≤ (s[i].toNat : Int) := by omega
      have j2 : ¬ (s[i].toNat : Int) < 224 := by omega
      have j3 : (224 : Int) ≤ (s[i].toNat : Int) := by omega
      by_cases h2 : s[i].toNat < 240
      · as_aux_lemma =>
        have j4 : (s[i].toNat : Int) < 240 := by omega
        have w0 : (s[i].toNat : Int) - 224 = ((s[i].toNat - 224 : Nat) : Int) := by omega
        have HGL : Hid (gld s[i].toNat 2 2048 (s[i].toNat - 224)) := by unfold Hid gld; omega
        generalize s[i].toNat - 224 = c0 at *
        go_wp2_with fail
        go_meet
        case rel => exact ⟨2, 2048, c0, rfl, rfl, rfl, rfl, rfl, HGL⟩
      as_aux_lemma =>
        have j4 : ¬ (s[i].toNat : Int) < 240 := by omega
        have j5 : (240 : Int) ≤ (s[i].toNat : Int) := by omega
        have j6 : (s[i].toNat : Int) < 245 := by omega
        have w0 : (s[i].toNat : Int) - 240 = ((s[i].toNat - 240 : Nat) : Int) := by omega
        have HGL : Hid (gld s[i].toNat 3 65536 (s[i].toNat - 240)) := by unfold Hid gld; omega
        generalize s[i].toNat - 240 = c0 at *
        go_wp2_with fail
        go_meet
        case rel => exact ⟨3, 65536, c0, rfl, rfl, rfl, rfl, rfl, HGL⟩
    obtain ⟨n, least, c0, rfl, rfl, rfl, rfl, hww, HGL⟩ := hcut
    have hww := hww.symm
    subst hww
    have HS := hide (Gin.start s i c0 (gld_c0 HGL.out))
    have hn3 : n ≤ 3 := gld_n HGL.out
    have HN1 := hide (gld_n1 HGL.out)
    have hls : least ≤ 65536 := gld_least HGL.out
    clear hbad h128 k1 hc6
    go_wp2_with fail
    go_loopw [4, 7] (fun vc vk wx => ∃ k X : Nat, k ≤ n ∧ vc = .int .i64 (X : Nat) ∧ vk = .int .i64 ((k + 1 : Nat) : Int) ∧ wx = w ∧ Hid (Gin s i c0 k X)) (fun _ vk _ => n + 1 - (intOf vk).toNat)
    case atStart => exact ⟨0, c0, by omega, rfl, rfl, rfl, HS⟩
    case round =>
      obtain ⟨k, X, hk, rfl, rfl, hww, HI⟩ := hrel
      have hww := hww.symm
      subst hww
      clear HS
      have hX : X ≤ 1000000000 := by
        have h1 := HI.out.b
        have h2 : 64 ^ k ≤ 64 ^ 3 := Nat.pow_le_pow_right (by decide) (by omega)
        have h3 : (64 : Nat) ^ 3 ≤ 262144 := by decide
        omega
      by_cases hkn : k < n
      · have m2 : ((k + 1 : Nat) : Int) ≤ (n : Int) := by omega
        have HBD : Hid (((sl s).drop (i + 1)).length ≤ k ∨ ((sl s).drop (i + 1)).getD k 0 < 128 ∨ 191 < ((sl s).drop (i + 1)).getD k 0 → G = false) := fun hb => good_bad hlt HD.out (by rw [drop_sl s i hlt]; exact g_bad HGL.out hkn hb)
        by_cases a1 : i + (k + 1) < s.size
        case neg => as_aux_lemma =>
          have q1 : (s.size : Int) ≤ (i : Int) + ((k : Int) + 1) := by omega
          have HE : Hid (G = false) := HBD.out (.inl (by rw [drop_len]; omega))
          go_wp2_with fail
          go_ret
          exact ⟨by rw [HE.out] <;> rfl, rfl⟩
        have q1 : ¬ (s.size : Int) ≤ (i : Int) + ((k : Int) + 1) := by omega
        have q0 : (i : Int) + ((k : Int) + 1) < (s.size : Int) := by omega
        have HGE : Hid (((sl s).drop (i + 1)).getD k 0 = s[i + (k + 1)].toNat) := by
          show _ = _
          rw [drop_get s (i + 1) k (by omega)]
          congr 2
          omega
        have hp6 : s[i + (k + 1)].toNat < 256 := (s[i + (k + 1)]).toNat_lt
        by_cases a2 : s[i + (k + 1)].toNat < 128
        · as_aux_lemma =>
          have q2 : (s[i + (k + 1)].toNat : Int) < 128 := by omega
          have HE : Hid (G = false) := HBD.out (.inr (.inl (by rw [HGE.out]; exact a2)))
          go_wp2_with fail
          go_ret
          exact ⟨by rw [HE.out] <;> rfl, rfl⟩
        have q2 : ¬ (s[i + (k + 1)].toNat : Int) < 128 := by omega
        by_cases a3 : 191 < s[i + (k + 1)].toNat
        · as_aux_lemma =>
          have q3 : (191 : Int) < (s[i + (k + 1)].toNat : Int) := by omega
          have HE : Hid (G = false) := HBD.out (.inr (.inr (by rw [HGE.out]; exact a3)))
          go_wp2_with fail
          go_ret
          exact ⟨by rw [HE.out] <;> rfl, rfl⟩
        as_aux_lemma =>
          have q3 : ¬ (191 : Int) < (s[i + (k + 1)].toNat : Int) := by omega
          have HI2 := hide (HI.out.next rfl a1 (by omega) (by omega))
          obtain ⟨Y, hY⟩ : ∃ Y, 64 * X + s[i + (k + 1)].toNat - 128 = Y := ⟨_, rfl⟩
          rw [hY] at HI2
          have m4 : 64 * (X : Int) + (s[i + (k + 1)].toNat : Int) - 128 = (Y : Nat) := by omega
          clear hY a2 a3
          go_wp2_with fail
          go_roundw
          case rel => exact ⟨k + 1, Y, by omega, by first | rfl | (rw [m4]) | (congr 1; omega), by go_num, trivial, HI2⟩
          case measure => simp [intOf]; omega
      · have hk2 : k = n := by omega
        subst hk2
        have m2 : ¬ ((k + 1 : Nat) : Int) ≤ (k : Int) := by omega
        have HF := hide (HI.out.fin hlt HGL.out)
        have hle : i + 1 + k ≤ s.size := by
          have h1 := HN1.out
          have := (HI.out.a (k - 1) (by omega)).1
          omega
        by_cases b1 : X < least
        · as_aux_lemma =>
          have q1 : (X : Int) < (least : Int) := by omega
          have HE : Hid (G = false) := good_bad hlt HD.out (by rw [HF.out, if_pos (.inl b1)])
          go_wp2_with fail
          go_ret
          exact ⟨by rw [HE.out] <;> rfl, rfl⟩
        have q1 : ¬ (X : Int) < (least : Int) := by omega
        by_cases b2 : 1114111 < X
        · as_aux_lemma =>
          have q2 : (1114111 : Int) < (X : Int) := by omega
          have HE : Hid (G = false) := good_bad hlt HD.out (by rw [HF.out, if_pos (.inr (.inl b2))])
          go_wp2_with fail
          go_ret
          exact ⟨by rw [HE.out] <;> rfl, rfl⟩
        have q2 : ¬ (1114111 : Int) < (X : Int) := by omega
        by_cases b3 : 55296 ≤ X
        · have q3 : (55296 : Int) ≤ (X : Int) := by omega
          by_cases b4 : X ≤ 57343
          · as_aux_lemma =>
            have q4 : (X : Int) ≤ 57343 := by omega
            have HE : Hid (G = false) := good_bad hlt HD.out (by rw [HF.out, if_pos (.inr (.inr ⟨b3, b4⟩))])
            go_wp2_with fail
            go_ret
            exact ⟨by rw [HE.out] <;> rfl, rfl⟩
          as_aux_lemma =>
            have q4 : ¬ (X : Int) ≤ 57343 := by omega
            have HN := hide (good_step (n := k) hlt HD.out (by rw [HF.out, if_neg (by omega)]))
            go_wp2_with fail
            go_roundw
            case rel => exact ⟨i + 1 + k, hle, by go_num, HN, trivial⟩
            case measure => simp [intOf]; omega
        as_aux_lemma =>
          have q3 : ¬ (55296 : Int) ≤ (X : Int) := by omega
          have HN := hide (good_step (n := k) hlt HD.out (by rw [HF.out, if_neg (by omega)]))
          go_wp2_with fail
          go_roundw
          case rel => exact ⟨i + 1 + k, hle, by go_num, HN, trivial⟩
          case measure => simp [intOf]; omega
end
end Go.Proofs.YtbbalhfjgpaabaaGreatDoor
