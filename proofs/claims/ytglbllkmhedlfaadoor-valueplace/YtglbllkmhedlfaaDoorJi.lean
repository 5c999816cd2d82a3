import Derived.Test.YtglbllkmhedlfaaDoorJg
import Derived.Test.YtglbllkmhedlfaaDoorJh
import Derived.Test.YtglbllkmhedlfaaDoorJd
import Derived.Test.YtglbllkmhedlfaaDoorJa
import Derived.LaidLaws
import Derived.Handed
import Derived.Lib.LaidTab
import Derived.Test.YtglbllkmhedlfaaDoorJe
import Derived.Great.BuildSlice
import Derived.Great.FillDense
import Derived.Maps.AppendAt
import Derived.Test.YtglbllkmhedlfaaDoorJc
import Derived.Test.YtglbllkmhedlfaaDoorJb
import Derived.Test.YtglbllkmhedlfaaDoorJf
namespace Go.Proofs.YtglbllkmhedlfaaDoor
section
open Go.RowKit Go
def saa : ByteArray := ⟨#[97, 97]⟩
def sbb : ByteArray := ⟨#[98]⟩
def tone : Tv := .mk 3 false false 1 0 ⟨#[]⟩ [] ⟨0, 0, 0, []⟩ [] []
def tnull : Tv := .mk 1 false false 0 0 ⟨#[]⟩ [] ⟨0, 0, 0, []⟩ [] []
/-- The map of two entries. -/
def ttwo : Tv := .mk 9 false false 0 0 ⟨#[]⟩ [] ⟨0, 0, 0, []⟩ [saa, sbb] [tone, tnull]
theorem lkb0 : Lkb ⟨0, 0, 0, []⟩ := ⟨by show 0 < _; decide, by show 0 < _; decide, by simp, by show 0 ≤ _; decide⟩
theorem bsl0 (w : World) : BSl w (.slice none 0 0) [] := ⟨⟨none, 0, rfl, ⟨by simp, fun _ => rfl⟩, .inl rfl⟩, by simp, by simp⟩
theorem ssl0 (w : World) : SSl w (.slice none 0 0) [] := ⟨⟨none, 0, rfl, ⟨by simp, fun _ => rfl⟩, .inl rfl⟩, by simp, by simp⟩
theorem vsl0 (w : World) : VSl w (.slice none 0 0) [] := ⟨⟨none, 0, rfl, ⟨by simp, fun _ => rfl⟩, .inl rfl⟩, by simp⟩
theorem tin_one (w : World) : Tin w tone (vcs tone (.slice none 0 0) (.slice none 0 0) (.slice none 0 0)) := Tin.of (bsl0 w) (ssl0 w) (vsl0 w) ⟨by show 1 < _; decide, by show 0 < _; decide, by show (0 : Nat) ≤ _; decide, by show (0 : Nat) ≤ _; decide, lkb0, by show (0 : Nat) ≤ _; decide⟩
theorem tin_null (w : World) : Tin w tnull (vcs tnull (.slice none 0 0) (.slice none 0 0) (.slice none 0 0)) := Tin.of (bsl0 w) (ssl0 w) (vsl0 w) ⟨by show 0 < _; decide, by show 0 < _; decide, by show (0 : Nat) ≤ _; decide, by show (0 : Nat) ≤ _; decide, lkb0, by show (0 : Nat) ≤ _; decide⟩
def cTwo (n : Nat) : Array Value := vcs ttwo (.slice none 0 0) (.slice (some ⟨n + 1 + 1, 0, none⟩) 2 2) (.slice (some ⟨n + 1 + 1 + 1, 0, none⟩) 2 2)
def cOne : Array Value := vcs tone (.slice none 0 0) (.slice none 0 0) (.slice none 0 0)
def cNul : Array Value := vcs tnull (.slice none 0 0) (.slice none 0 0) (.slice none 0 0)
def wTwo (w : World) : World := (((w.alloc (.cells (cTwo w.heap.size) 38)).alloc (.cells cOne 38)).alloc (.cells #[.string saa, .string sbb] 9)).alloc (.cells (cOne ++ cNul) 38)
theorem two_tin (w : World) : Tin (wTwo w) ttwo (cTwo w.heap.size) ∧ Below w.heap.size w (wTwo w) ∧ (wTwo w).heap[w.heap.size]? = some (.cells (cTwo w.heap.size) 38 (0, 0)) := by
  have e1 : (w.alloc (.cells (cTwo w.heap.size) 38)).heap.size = w.heap.size + 1 := by simp
  have e2 : ((w.alloc (.cells (cTwo w.heap.size) 38)).alloc (.cells cOne 38)).heap.size = w.heap.size + 1 + 1 := by simp
  have e3 : (((w.alloc (.cells (cTwo w.heap.size) 38)).alloc (.cells cOne 38)).alloc (.cells #[.string saa, .string sbb] 9)).heap.size = w.heap.size + 1 + 1 + 1 := by simp
  have h1 := heap_alloc_new w (.cells (cTwo w.heap.size) 38)
  have h3 := heap_alloc_new ((w.alloc (.cells (cTwo w.heap.size) 38)).alloc (.cells cOne 38)) (.cells #[.string saa, .string sbb] 9)
  have h4 := heap_alloc_new (((w.alloc (.cells (cTwo w.heap.size) 38)).alloc (.cells cOne 38)).alloc (.cells #[.string saa, .string sbb] 9)) (.cells (cOne ++ cNul) 38)
  rw [e2] at h3
  rw [e3] at h4
  have hK : (wTwo w).heap[w.heap.size + 1 + 1]? = some (.cells #[.string saa, .string sbb] 9 (0, 0)) := blk_alloc _ h3
  have hI : (wTwo w).heap[w.heap.size + 1 + 1 + 1]? = some (.cells (cOne ++ cNul) 38 (0, 0)) := h4
  have b1 := below_alloc4 w (.cells (cTwo w.heap.size) 38)
  have b2 := below_alloc4 (w.alloc (.cells (cTwo w.heap.size) 38)) (.cells cOne 38)
  have b3 := below_alloc4 ((w.alloc (.cells (cTwo w.heap.size) 38)).alloc (.cells cOne 38)) (.cells #[.string saa, .string sbb] 9)
  have b4 := below_alloc4 (((w.alloc (.cells (cTwo w.heap.size) 38)).alloc (.cells cOne 38)).alloc (.cells #[.string saa, .string sbb] 9)) (.cells (cOne ++ cNul) 38)
  refine ⟨Tin.of (bsl0 _) ?_ ?_ ⟨by show 0 < _; decide, by show 0 < _; decide, by show (0 : Nat) ≤ _; decide, by show (0 : Nat) ≤ _; decide, lkb0, by show (0 : Nat) ≤ _; decide⟩, ((b1.trans (b2.mono (by omega))).trans (b3.mono (by omega))).trans (b4.mono (by omega)), blk_alloc _ (blk_alloc _ (blk_alloc _ h1))⟩
  · refine ⟨⟨_, 2, rfl, ⟨by decide, fun h => by cases h⟩, .inr ⟨w.heap.size + 1 + 1, 0, rfl, fun j s hj => ?_⟩⟩, by decide, fun s hs => ?_⟩
    · rw [Nat.zero_add]
      match j, hj with
      | 0, hj =>
        injection hj with hj
        subst hj
        exact blk_cell hK rfl
      | 1, hj =>
        injection hj with hj
        subst hj
        exact blk_cell hK rfl
      | j + 2, hj => simp [ttwo, Tv.ks] at hj
    · simp only [ttwo, Tv.ks, List.mem_cons, List.not_mem_nil, or_false] at hs
      rcases hs with rfl | rfl
      · show (2 : Nat) ≤ _
        decide
      · show (1 : Nat) ≤ _
        decide
  · refine ⟨⟨_, 2, rfl, ⟨by decide, fun h => by cases h⟩, .inr ⟨w.heap.size + 1 + 1 + 1, 0, rfl, fun i t hi => ?_⟩⟩, by decide⟩
    match i, hi with
    | 0, hi =>
      injection hi with hi
      subst hi
      refine ⟨_, tin_one _, fun j u hu => ?_⟩
      rw [show 0 + 0 * 13 + j = j by omega]
      have hj : j < 13 := (Array.getElem?_eq_some_iff.1 hu).1
      exact blk_cell hI (by rw [Array.getElem?_append_left (by exact hj)]; exact hu)
    | 1, hi =>
      injection hi with hi
      subst hi
      refine ⟨_, tin_null _, fun j u hu => ?_⟩
      rw [show 0 + 1 * 13 + j = 13 + j by omega]
      exact blk_cell hI (by rw [Array.getElem?_append_right (by show 13 ≤ 13 + j; omega)]; show cNul[13 + j - 13]? = some u; rw [Nat.add_sub_cancel_left]; exact hu)
    | i + 2, hi => simp [ttwo, Tv.is] at hi
theorem end_tw {wx : World} {R : Nat} {c : Array Value} {tmps : Array Value} (hn : c.size = 13) (hr : wx.heap[R]? = some (.cells c 38 (0, 0))) (hp : tmps.getD 0 undef = .pointer (some ⟨R, 0, none⟩)) : (results Tryd.f34 tmps).run Tryd.prog wx = .ok (.agg c) wx := by
  refine (results_one (p := 0) (ty := 38) rfl _ _ _).trans ?_
  rw [hp]
  have h1 := run_loadVar_row (P := Tryd.prog) wx R 38 38 c (0, 0) _ hr Tryd.underlying38 rfl (by rw [hn]; exact infoV)
  simp [asAddr, h1, Result.andThen]
set_option maxRecDepth 1000000 in
set_option maxHeartbeats 1000000 in
theorem two_any (w : World) : Calls Tryd.prog 34 #[] w fun e w' => ∃ c, e = .returned (.agg c) ∧ Tin w' ttwo c ∧ Below w.heap.size w w' := by
  have HTW := hide (two_tin w)
  go_enter Tryd.func34, Tryd.ntmps34
  go_wp2_with fail
  exact bodyPost_ret (end_tw rfl HTW.out.2.2 rfl) rfl ⟨_, rfl, HTW.out.1, HTW.out.2.1⟩
end
section
open Go.RowKit Go
def ttwoS : Tv := .mk 9 false false 0 0 ⟨#[]⟩ [] ⟨0, 0, 0, []⟩ [sbb, saa] [tnull, tone]
theorem srt_leaf {t v : Tv} (h9 : t.k ≠ 9) (hi : t.is = []) (h : SrtR t v) : v = t := by
  cases h with
  | map _ _ _ e => exact absurd e h9
  | rest _ _ _ ht hk hn _ =>
    have e : v.is = [] := List.length_eq_zero_iff.1 (by rw [hn, hi]; rfl)
    exact Tv.same ht.k ht.f ht.g ht.n ht.b ht.s ht.l ht.y hk (by rw [e, hi])
theorem two_srp : Srp ttwo.ks 2 [1, 0] := by
  refine ⟨by decide, fun i j p q hij h1 h2 => ?_⟩
  have hj := (List.getElem?_eq_some_iff.1 h2).1
  simp at hj
  have e1 : i = 0 := by omega
  have e2 : j = 1 := by omega
  subst e1 e2
  simp at h1 h2
  subst h1 h2
  rfl
theorem two_srt {x : Tv} (h : SrtR ttwo x) : x = ttwoS := by
  cases h with
  | rest _ _ e => exact absurd rfl e
  | map _ _ ps _ ht hp hk hn hi =>
    have e := srp_one (ks := ttwo.ks) (n := 2) (by decide) (by decide) hp two_srp
    subst e
    have hks : x.ks = [sbb, saa] := hk
    have h2 : x.is.length = 2 := hn
    have g0 := List.getElem?_eq_getElem (show 0 < x.is.length by omega)
    have g1 := List.getElem?_eq_getElem (show 1 < x.is.length by omega)
    have v0 := srt_leaf (t := tnull) (by decide) rfl (hi 0 1 tnull _ rfl rfl g0)
    have v1 := srt_leaf (t := tone) (by decide) rfl (hi 1 0 tone _ rfl rfl g1)
    have his : x.is = [tnull, tone] := by
      apply List.ext_getElem?
      intro i
      match i with
      | 0 => rw [g0, v0]; rfl
      | 1 => rw [g1, v1]; rfl
      | i + 2 => rw [List.getElem?_eq_none (by omega), List.getElem?_eq_none (by simp)]
    exact Tv.same ht.k ht.f ht.g ht.n ht.b ht.s ht.l ht.y hks his
theorem two_trk : Trk ttwo := by
  refine Trk.mk ttwo (fun _ => ⟨rfl, by decide, rfl, rfl, rfl, rfl, rfl, rfl, rfl⟩) (fun e => absurd rfl e) (fun u hu => ?_)
  simp only [ttwo, Tv.is, List.mem_cons, List.not_mem_nil, or_false] at hu
  rcases hu with rfl | rfl
  · exact Trk.mk tone (fun e => absurd e (by decide)) (fun _ => rfl) (fun u hu => by simp [tone, Tv.is] at hu)
  · exact Trk.mk tnull (fun e => absurd e (by decide)) (fun _ => rfl) (fun u hu => by simp [tnull, Tv.is] at hu)
theorem two_eq (h : SrtR ttwo ttwoS) : eqf ttwo ttwoS = true := (eqf_teq ttwo ttwoS two_trk (trk_srt h two_trk)).2 ⟨ttwoS, h, srt_idem h⟩
theorem bad_e : badb ⟨#[]⟩ = false := by decide +kernel
theorem bad_aa : badb saa = false := by decide +kernel
theorem bad_bb : badb sbb = false := by decide +kernel
theorem one_chk : chkf tone 1 = 0 := by
  rw [chkf_eq]
  have h : onef tone 1 = 0 := by
    unfold onef
    rw [if_neg (by decide), if_neg (by decide), if_neg (by decide), if_neg (by rw [show tone.s = ⟨#[]⟩ from rfl, bad_e, show tone.ks = [] from rfl]; simp), if_neg (by intro h; exact absurd h.1 (by decide)), if_neg (by intro h; exact absurd h.1 (by decide))]
  rw [if_pos h]
  show chkL [] _ = 0
  rw [chkL]
theorem null_chk : chkf tnull 1 = 0 := by
  rw [chkf_eq]
  have h : onef tnull 1 = 0 := by
    unfold onef
    rw [if_neg (by decide), if_neg (by decide), if_neg (by decide), if_neg (by rw [show tnull.s = ⟨#[]⟩ from rfl, bad_e, show tnull.ks = [] from rfl]; simp), if_neg (by intro h; exact absurd h.1 (by decide)), if_neg (by intro h; exact absurd h.1 (by decide))]
  rw [if_pos h]
  show chkL [] _ = 0
  rw [chkL]
theorem two_chk : chkf ttwo 0 = 0 := by
  rw [chkf_eq]
  have h : onef ttwo 0 = 0 := by
    unfold onef
    rw [if_neg (by decide), if_neg (by decide), if_neg (by decide), if_neg (by rw [show ttwo.s = ⟨#[]⟩ from rfl, bad_e, show ttwo.ks = [saa, sbb] from rfl]; simp [bad_aa, bad_bb]), if_neg (by intro h; exact absurd h.1 (by decide)), if_neg (by intro h; exact h.2 ⟨rfl, by decide⟩)]
  rw [if_pos h]
  refine chkL_none (fun u hu => ?_)
  simp only [ttwo, Tv.is, List.mem_cons, List.not_mem_nil, or_false] at hu
  rcases hu with rfl | rfl
  · exact one_chk
  · exact null_chk
theorem zero_chk : chkf zt 0 = 61 := by
  rw [chkf_eq]
  have h : onef zt 0 = 61 := by
    unfold onef
    rw [if_neg (by decide), if_pos (by decide)]
  rw [h]
  rfl
theorem tin_zero (w : World) : Tin w zt zv := Tin.of (bsl0 w) (ssl0 w) (vsl0 w) ⟨by show 0 < _; decide, by show 0 < _; decide, by show (0 : Nat) ≤ _; decide, by show (0 : Nat) ≤ _; decide, lkb0, by show (0 : Nat) ≤ _; decide⟩
theorem two_much : tmuch ttwo ≤ 100000 ∧ tmuch ttwoS ≤ 100000 ∧ tmuch zt ≤ 100000 ∧ tdepth ttwo = 1 := by
  refine ⟨?_, ?_, ?_, ?_⟩ <;> decide +kernel
end
section
open Go.ChangeShapes Go.WideShapes Go.ChangeAt Go.RowKit Go

end
section
open Go.ChangeShapes Go.WideShapes Go.ChangeAt Go.RowKit Go.Deep Go.Joins Go

end
section
open Go.ChangeShapes Go.WideShapes Go.ChangeAt Go.RowKit Go.Deep Go.Joins Go
/-- The cells of links in a row. -/
def fcl (rs : List Lk) : List Value := rs.flatMap fun l => (lcs l).toList
theorem fcl_app (a b : List Lk) : fcl (a ++ b) = fcl a ++ fcl b := by simp [fcl]
theorem fcl_len : ∀ rs : List Lk, (fcl rs).length = rs.length * 4
  | [] => rfl
  | r :: rs => by
    have h := fcl_len rs
    have e : fcl (r :: rs) = (lcs r).toList ++ fcl rs := by simp [fcl]
    rw [e, List.length_append, h, List.length_cons]
    have : (lcs r).toList.length = 4 := rfl
    omega
theorem fcl_get : ∀ (rs : List Lk) (k : Nat) (l : Lk) (j : Nat) (u : Value), rs[k]? = some l → (lcs l)[j]? = some u → (fcl rs)[k * 4 + j]? = some u
  | [], k, l, j, u, h, _ => by simp at h
  | r :: rs, 0, l, j, u, h, hu => by
    simp at h
    subst h
    have e : fcl (r :: rs) = (lcs r).toList ++ fcl rs := by simp [fcl]
    have hj : j < (lcs r).size := by
      rcases Array.getElem?_eq_some_iff.1 hu with ⟨hj, _⟩
      exact hj
    rw [e, List.getElem?_append_left (by simpa using hj)]
    simpa using hu
  | r :: rs, k + 1, l, j, u, h, hu => by
    simp at h
    have e : fcl (r :: rs) = (lcs r).toList ++ fcl rs := by simp [fcl]
    have h4 : (lcs r).toList.length = 4 := rfl
    rw [e, List.getElem?_append_right (by omega)]
    have e2 : (k + 1) * 4 + j - (lcs r).toList.length = k * 4 + j := by omega
    rw [e2]
    exact fcl_get rs k l j u h hu
theorem fcl_one (rs : List Lk) : ∀ u ∈ fcl rs, u.oneCell' = true := by
  intro u hu
  simp only [fcl, List.mem_flatMap] at hu
  obtain ⟨l, _, hl⟩ := hu
  simp only [lcs, List.mem_cons, List.not_mem_nil, or_false] at hl
  rcases hl with rfl | rfl | rfl | rfl <;> rfl
theorem infoLk_ex : ∃ i, Tryd.prog.info? 36 = some i ∧ i.zero = some (.agg zlk) ∧ i.size = 4 ∧ i.bytes = 40 := by
  have h : (Tryd.prog.info? 36).map (fun i => (i.zero, i.size, i.bytes)) = some (some (.agg zlk), 4, 40) := by kernel_rfl
  cases hi : Tryd.prog.info? 36 with
  | none => rw [hi] at h; cases h
  | some i =>
    rw [hi] at h
    injection h with h
    injection h with h1 h2
    injection h2 with h2 h3
    exact ⟨i, rfl, h1, h2, h3⟩
theorem zip_parts (rs : List Lk) (i0 : Nat) : (rs.map lkv).zipIdx i0 = (rs.zipIdx i0).map fun x => (lkv x.1, x.2) := by
  rw [List.zipIdx_map]
  rfl
theorem fill_lks (rs : List Lk) (cells : Array Value) (hc : cells.size = rs.length * 4) : Instr.fill (fun i => some (i * 4, 4)) cells ((rs.zipIdx 0).map fun x => (x.2, lkv x.1)) = some (fcl rs).toArray := by
  obtain ⟨r, hr, hsz, hk⟩ := Great.fill_dense (s := 4) (by decide) (rs.map lkv) 0 cells (by
    intro v hv
    simp only [List.mem_map] at hv
    obtain ⟨l, _, rfl⟩ := hv
    rfl) (by rw [List.length_map, hc]; omega)
  have e : r = (fcl rs).toArray := by
    apply Array.ext_getElem?
    intro k
    have et : (fcl rs).toArray[k]? = (fcl rs)[k]? := List.getElem?_toArray
    rw [hk k, List.length_map, et]
    by_cases h : k < rs.length * 4
    · rw [if_pos ⟨by omega, by omega⟩, Nat.sub_zero, List.getElem?_map]
      have h4 : k / 4 < rs.length := by omega
      rw [List.getElem?_eq_getElem h4]
      simp only [Option.map_some, Option.bind_some]
      have hx : ∃ u, (lcs rs[k / 4])[k % 4]? = some u := by
        have : k % 4 < (lcs rs[k / 4]).size := by show k % 4 < 4; omega
        exact ⟨_, Array.getElem?_eq_getElem this⟩
      obtain ⟨u, hu⟩ := hx
      have hg := fcl_get rs (k / 4) rs[k / 4] (k % 4) u (List.getElem?_eq_getElem h4) hu
      have ek : k / 4 * 4 + k % 4 = k := by omega
      rw [ek] at hg
      rw [hg]
      exact hu
    · rw [if_neg (by omega), Array.getElem?_eq_none (by omega), List.getElem?_eq_none (by rw [fcl_len]; omega)]
  rw [e] at hr
  rw [zip_parts, List.map_map] at hr
  exact hr
theorem big24 {n : Nat} (h : n ≤ 1000) : ¬ n * 4 > 2 ^ 24 := by
  have : (2 : Nat) ^ 24 = 16777216 := by decide
  omega
theorem wpList_lks {ops : Array Oper} {rest : List Oper} {o : Oper} {a : Act} {w : World} {Q : Exit → Act → World → Prop} (hg : o.guard = none) (n : Nat) (parts : Array (Nat × Operand)) (ho : o.op = .buildSlice 27 n parts) (rs : List Lk) (hn : rs.length = n) (h0 : 0 < n) (h8 : n ≤ 1000)
    (hx : (parts.map fun (i, x) => (i, a.eval x)).toList = (rs.zipIdx 0).map fun x => (x.2, lkv x.1))
    (h : wpList Tryd.prog ops Q rest (a.put o.dst (.slice (some ⟨w.heap.size, 0, none⟩) n n)) (w.alloc (.cells (fcl rs).toArray 36))) : wpList Tryd.prog ops Q (o :: rest) a w := by
  obtain ⟨i, hi, hz, hs, _⟩ := infoLk_ex
  refine wpList_buildSlice hg 27 36 n _ ho (fcl rs).toArray i _ Tryd.underlying27 hi hz (by rw [hs]; exact big24 h8) (by rw [hs]; omega) ?_ h
  rw [hs, hx]
  exact fill_lks rs _ (by simp [hn])
end
section
open Go.RowKit Go

end
section
open Go.RowKit Go

end
section
open Go.RowKit Go
theorem wpList_lks1 {ops : Array Oper} {rest : List Oper} {o : Oper} {a : Act} {w : World} {Q : Exit → Act → World → Prop} {x0 : Operand} (hg : o.guard = none) (ho : o.op = .buildSlice 27 1 #[(0, x0)]) (r0 : Lk)
    (h0 : a.eval x0 = lkv r0)
    (h : wpList Tryd.prog ops Q rest (a.put o.dst (.slice (some ⟨w.heap.size, 0, none⟩) 1 1)) (w.alloc (.cells (fcl [r0]).toArray 36))) : wpList Tryd.prog ops Q (o :: rest) a w :=
  wpList_lks hg 1 _ ho [r0] rfl (by decide) (by decide) (by simp [h0]) h
end
section
open Go.RowKit Go
/-- The places of a value's items, in the form's order. -/
def pls (t : Tv) : List Nat := if t.k = 8 then List.range t.is.length else ordp t.ks (min t.ks.length t.is.length)
/-- A value's links, in the form's order. -/
def lnkf (t : Tv) : List Lk :=
  if t.k = 7 then [t.l]
  else if t.k = 8 ∨ t.k = 9 then (pls t).flatMap fun p => if h : p < t.is.length then lnkf (t.is[p]'h) else []
  else []
termination_by SizeOf.sizeOf t
decreasing_by exact Tv.is_lt (List.getElem_mem _)
def lnx (t : Tv) (p : Nat) : List Lk := if h : p < t.is.length then lnkf (t.is[p]'h) else []
theorem lnx_at {t u : Tv} {p : Nat} (h : t.is[p]? = some u) : lnx t p = lnkf u := by
  have h1 := (List.getElem?_eq_some_iff.1 h).1
  unfold lnx
  rw [dif_pos h1]
  rw [List.getElem?_eq_getElem h1] at h
  injection h with h
  rw [h]
theorem lnkf_7 {t : Tv} (h : t.k = 7) : lnkf t = [t.l] := by rw [lnkf, if_pos h]
theorem lnkf_n {t : Tv} (h7 : t.k ≠ 7) (h : t.k = 8 ∨ t.k = 9) : lnkf t = (pls t).flatMap (lnx t) := by
  rw [lnkf, if_neg h7, if_pos h]
  rfl
theorem lnkf_0 {t : Tv} (h7 : t.k ≠ 7) (h : ¬ (t.k = 8 ∨ t.k = 9)) : lnkf t = [] := by rw [lnkf, if_neg h7, if_neg h]
theorem flat_take {t : Tv} {ps : List Nat} {i p : Nat} (hp : ps[i]? = some p) : (ps.take (i + 1)).flatMap (lnx t) = (ps.take i).flatMap (lnx t) ++ lnx t p := by
  have hi := (List.getElem?_eq_some_iff.1 hp).1
  rw [List.take_succ_eq_append_getElem hi, List.flatMap_append]
  rw [List.getElem?_eq_getElem hi] at hp
  injection hp with hp
  simp [hp]
theorem flat_le {t : Tv} {ps : List Nat} (i : Nat) : ((ps.take i).flatMap (lnx t)).length ≤ (ps.flatMap (lnx t)).length := by
  have h : ps.flatMap (lnx t) = (ps.take i).flatMap (lnx t) ++ (ps.drop i).flatMap (lnx t) := by rw [← List.flatMap_append, List.take_append_drop]
  rw [h, List.length_append]
  omega
/-- What gathered does: links and, behind them, those of a value that lies in an older world. -/
def GatC (t : Tv) : Prop := ∀ (w0 : World) (cs : Array Value), Tin w0 t cs → tmuch t ≤ 100000 → ∀ (w : World) (v : Value) (rs : List Lk), Below w0.heap.size w0 w → w.ownsRow w0.heap.size 36 4 v rs.length (fcl rs) → (rs ++ lnkf t).length ≤ 1000000 →
  Calls Tryd.prog 24 #[v, .agg cs] w fun e w' => ∃ v', e = .returned v' ∧ w'.ownsRow w0.heap.size 36 4 v' (rs ++ lnkf t).length (fcl (rs ++ lnkf t)) ∧ Kp (fun q => v.ownBlock = some q) w w' ∧ (v'.ownBlock = v.ownBlock ∨ ∃ q, v'.ownBlock = some q ∧ w.heap.size ≤ q)
/-- What gathered has in hand within its loop; g: its argument's block. -/
structure Gth (w wx : World) (g : Nat) (cs : Array Value) (B : Nat) (v vx : Value) (rs : List Lk) : Prop where
  o : wx.ownsRow B 36 4 vx rs.length (fcl rs)
  k : Kp (fun q => v.ownBlock = some q) w wx
  r : wx.heap[g]? = some (.cells cs 38 (0, 0))
  q : vx.ownBlock = v.ownBlock ∨ ∃ q, vx.ownBlock = some q ∧ w.heap.size ≤ q
theorem Gth.below {w wx : World} {g : Nat} {cs : Array Value} {B : Nat} {v vx : Value} {rs : List Lk} {w0 : World} (h : Gth w wx g cs B v vx rs) (h0 : Below w0.heap.size w0 w) (hv : ∀ q, v.ownBlock = some q → w0.heap.size ≤ q) : Below w0.heap.size w0 wx := h0.trans (h.k.below h0.size hv)
theorem Gth.step {w wx wy : World} {g : Nat} {cs : Array Value} {B : Nat} {v vx vy : Value} {rs rs' : List Lk} (h : Gth w wx g cs B v vx rs) (hg : g < w.heap.size) (hv : ∀ q, v.ownBlock = some q → q ≠ g) (ho : wy.ownsRow B 36 4 vy rs'.length (fcl rs')) (hk : Kp (fun q => vx.ownBlock = some q) wx wy) (hq : vy.ownBlock = vx.ownBlock ∨ ∃ q, vy.ownBlock = some q ∧ wx.heap.size ≤ q) : Gth w wy g cs B v vy rs' := by
  have hg2 : ¬ vx.ownBlock = some g := fun e => by
    rcases h.q with h1 | ⟨q, h1, h2⟩
    · rw [h1] at e
      exact hv _ e rfl
    · rw [h1] at e
      injection e with e
      omega
  have hz := h.k.size
  refine ⟨ho, h.k.trans hk (fun k hkk e => ?_), (hk.block _ (blk_lt h.r) hg2).trans h.r, ?_⟩
  · rcases h.q with h1 | ⟨q, h1, h2⟩
    · rw [← h1]
      exact e
    · rw [h1] at e
      injection e with e
      omega
  · rcases hq with h1 | ⟨q, h1, h2⟩
    · rw [h1]
      exact h.q
    · exact .inr ⟨q, h1, by omega⟩
end
section
open Go.RowKit Go
theorem append_lkq {ops : Array Oper} {rest : List Oper} {o : Oper} {a : Act} {Q : Exit → Act → World → Prop} {w : World} (hgd : o.guard = none) (s x : Operand)
    (ho : o.op = .call { callee := .builtin .append, args := #[s, x], argTypes := #[27, 27] }) (B : Nat) (v : Value) (n : Nat) (rs : List Lk) (hs : a.eval s = v) (hown : w.ownsRow B 36 4 v n (fcl rs))
    (g : Nat) (l : Lk) (hx : a.eval x = .slice (some ⟨g, 0, none⟩) 1 1) (hg : w.heap[g]? = some (.cells (fcl [l]).toArray 36 (0, 0))) (hlen : n < 1099511627776) (hbase : B ≤ w.heap.size)
    (h : ∀ v' w', w'.ownsRow B 36 4 v' (n + 1) (fcl (rs ++ [l])) → w.grownBy w' v.ownBlock → (v'.ownBlock = v.ownBlock ∨ v'.ownBlock = some w.heap.size) → wpList Tryd.prog ops Q rest (a.put o.dst v') w') : wpList Tryd.prog ops Q (o :: rest) a w := by
  obtain ⟨i, hi, hz0, hz1, hz2⟩ := infoLk_ex
  refine wpList_append_own_at w hgd s x 27 ho B 36 i _ 4 40 Tryd.underlying27 hi hz0 hz1 hz2 rfl (by decide) v n (fcl rs) hs hown ⟨g, 0, none⟩ 1 1 (fcl [l]) hx (by rw [fcl_len]; rfl) (fun j u hu => ?_) (fcl_one [l]) (by unfold maxLen; omega) (by omega) hbase fun v' w' h1 h2 _ h4 => h v' w' (by rw [fcl_app]; exact h1) h2 h4
  have hadd : (⟨g, 0, none⟩ : Addr).add j = ⟨g, j, none⟩ := by unfold Addr.add; split <;> simp_all
  rw [hadd]
  exact blk_cell hg (by rw [List.getElem?_toArray]; exact hu)
set_option maxRecDepth 1000000 in
set_option maxHeartbeats 1000000 in
theorem gathered_step (t : Tv) (ih : ∀ u ∈ t.is, GatC u) : GatC t := by
  intro w0 cs ht hm w v rs hb0 hown hlen
  have HIH := hide ih
  have HT0 := hide ht
  have HSZ := hide ht.size13
  have hme := tmuch_eq t
  have HML : Hid (tmuchL t.is ≤ 100000 ∧ t.ks.length ≤ 100000) := ⟨by omega, by omega⟩
  have HB0 := hide hb0
  have HO0 := hide hown
  have HLN := hide hlen
  have HVB : Hid (∀ q, v.ownBlock = some q → w0.heap.size ≤ q ∧ q < w.heap.size) := fun q hq => hown.lt q hq
  clear ih hm hme hb0 hlen
  obtain ⟨ax, cx, hvx⟩ : ∃ ax cx, v = .slice ax rs.length cx := own_slice hown
  subst hvx
  clear hown
  obtain ⟨vy, vk, vi, rfl, hy, hk, hv, hb⟩ := ht.parts
  have HLB := hide hb.l
  obtain ⟨⟨ai, ci, rfl, _, hform⟩, hmax⟩ := hv
  have HF := hide hform
  have HC0 : Hid ((vcs t vy vk (.slice ai t.is.length ci))[0]? = some (.int .i64 t.k)) := rfl
  have HC12 : Hid ((vcs t vy vk (.slice ai t.is.length ci))[12]? = some (.slice ai t.is.length ci)) := rfl
  have HLK : Hid (∀ (wx : World) (g : Nat), wx.heap[g]? = some (.cells (vcs t vy vk (.slice ai t.is.length ci)) 38 (0, 0)) → ∀ j x, (lcs t.l)[j]? = some x → wx.cell? ⟨g, 7 + j, none⟩ = some x) := fun wx g h j x hx => lk_in h hx
  generalize vcs t vy vk (.slice ai t.is.length ci) = cs at *
  clear ht hy hk hb hform
  have HG0 : Hid (Gth w (w.alloc (.cells cs 38)) w.heap.size cs w0.heap.size (.slice ax rs.length cx) (.slice ax rs.length cx) rs) := ⟨HO0.out.alloc _, Kp.of_below (below_alloc4 w _), heap_alloc_new w _, .inl rfl⟩
  have q0 := blk_cell HG0.out.r HC0.out
  by_cases h7 : t.k = 7
  · as_aux_lemma =>
    have g7 : (t.k == 7) = true := beq_iff_eq.2 h7
    have HE : Hid (lnkf t = [t.l]) := lnkf_7 h7
    have HLA := hide (HLK.out _ _ HG0.out.r)
    have HL1 := hide (heap_alloc_new (w.alloc (.cells cs 38)) (.cells (fcl [t.l]).toArray 36))
    have HLE : Hid (rs.length ≤ 1000000) := by have := HLN.out; rw [List.length_append] at this; show _ ≤ _; omega
    have HBZ : Hid (w0.heap.size ≤ w.heap.size) := HB0.out.size
    clear h7
    go_enter Tryd.func24, Tryd.ntmps24
    go_wp2_with (first
      | (refine wpList_lkAt rfl rfl w.heap.size 7 t.l rfl HLA.out ?_)
      | (refine wpList_lks1 rfl rfl t.l rfl ?_)
      | (at_builtin; refine append_lkq rfl _ _ rfl w0.heap.size _ rs.length rs rfl (HG0.out.o.alloc _) (w.alloc (.cells cs 38)).heap.size t.l rfl HL1.out ?b1 ?b2 ?_))
    case b1 => have := HLE.out; omega
    case b2 => have := HBZ.out; simp; omega
    intro v2 w2 ho2 hg2 hv2
    have hk2 : Kp (fun q => (Value.slice ax rs.length cx).ownBlock = some q) w w2 := ((Kp.of_below (below_alloc4 w _)).trans (Kp.of_below (below_alloc4 (w.alloc (.cells cs 38)) _)) (fun _ _ h => h)).grown hg2 (fun _ _ h => h)
    have HO2 : Hid (w2.ownsRow w0.heap.size 36 4 v2 (rs ++ lnkf t).length (fcl (rs ++ lnkf t))) := by
      show World.ownsRow _ _ _ _ _ _ _
      rw [HE.out, List.length_append]
      exact ho2
    have HK2 := hide hk2
    have HQ2 : Hid (v2.ownBlock = (Value.slice ax rs.length cx).ownBlock ∨ ∃ q, v2.ownBlock = some q ∧ w.heap.size ≤ q) := hv2.imp id (fun h => ⟨_, h, by first | omega | (simp; omega) | simp⟩)
    clear ho2 hg2 hk2 hv2
    go_wp2_with fail
    go_ret
    exact ⟨_, rfl, HO2.out, HK2.out, HQ2.out⟩
  have g7 : (t.k == 7) = false := beq_eq_false_iff_ne.2 h7
  by_cases h8 : t.k = 8
  · have g8 : (t.k == 8) = true := beq_iff_eq.2 h8
    have HE : Hid (lnkf t = (List.range t.is.length).flatMap (lnx t)) := by
      show _ = _
      rw [lnkf_n h7 (.inl h8)]
      unfold pls
      rw [if_pos h8]
    have q12 := blk_cell HG0.out.r HC12.out
    have HB1 : Hid (Below w0.heap.size w0 (w.alloc (.cells cs 38))) := HB0.out.trans ((below_alloc4 w _).mono HB0.out.size)
    have HG1 : Hid (Gth (w.alloc (.cells cs 38)) (w.alloc (.cells cs 38)) w.heap.size cs w0.heap.size (.slice ax rs.length cx) (.slice ax rs.length cx) rs) := ⟨HG0.out.o, Kp.refl _ _, HG0.out.r, .inl rfl⟩
    have HK1 : Hid (Kp (fun q => (Value.slice ax rs.length cx).ownBlock = some q) w (w.alloc (.cells cs 38)) ∧ (w.alloc (.cells cs 38)).heap.size = w.heap.size + 1) := ⟨Kp.of_below (below_alloc4 w _), by simp⟩
    clear h7 h8 HG0
    go_enter Tryd.func24, Tryd.ntmps24
    go_wp2_with fail
    clear q0 q12
    generalize w.alloc (.cells cs 38) = w1 at *
    go_loopw [0, 23] (fun vv ii wx => ∃ i : Nat, i ≤ t.is.length ∧ ii = .int .i64 (i : Nat) ∧ Hid (Gth w1 wx w.heap.size cs w0.heap.size (.slice ax rs.length cx) vv (rs ++ ((List.range t.is.length).take i).flatMap (lnx t)))) (fun _ ii _ => t.is.length - (intOf ii).toNat)
    case atStart => exact ⟨0, by omega, rfl, by simpa using HG1⟩
    case round =>
      obtain ⟨i, hi, rfl, HG⟩ := hrel
      clear HG1
      obtain ⟨bx, dx, hux⟩ := own_slice HG.out.o
      subst hux
      have HBW := hide (HG.out.below HB1.out (fun q hq => (HVB.out q hq).1))
      by_cases hlt : i < t.is.length
      · as_aux_lemma =>
        have g1 : (i : Int) < (t.is.length : Int) := by omega
        obtain ⟨u, hu⟩ : ∃ u, t.is[i]? = some u := ⟨t.is[i], List.getElem?_eq_getElem hlt⟩
        obtain ⟨b, off, rfl, hcells⟩ := HF.out.resolve_left (fun h => by rw [h] at hlt; simp at hlt)
        obtain ⟨cu, hcu, hcc⟩ := hcells i u hu
        have HCC : Hid (∀ j x, cu[j]? = some x → wr.cell? ⟨b, off + i * 13 + j, none⟩ = some x) := fun j x hx => keep_below HBW.out _ _ (hcc j x hx)
        have hmem := List.mem_of_getElem? hu
        have HZ1 := hide hcu.size13
        have HA1 := hide hcu.all1
        have HIT := hide (itm_mk wr cu)
        have HGN := hide (heap_alloc_new wr (.cells zv 38))
        have HIN : Hid ((Tryd.prog.info? 38).map (·.size) = some cu.size) := by show _ = _; rw [HZ1.out]; exact infoV
        have HZV : Hid (zv.size = cu.size) := by show _ = _; rw [HZ1.out]; rfl
        have HCX := hide HIT.out.cells
        have hfl : ((List.range t.is.length).take (i + 1)).flatMap (lnx t) = ((List.range t.is.length).take i).flatMap (lnx t) ++ lnkf u := by rw [flat_take (List.getElem?_range hlt), lnx_at hu]
        have hle := flat_le (t := t) (ps := List.range t.is.length) (i + 1)
        have HGI : Hid (Gth w1 ((wr.alloc (.cells zv 38)).setRow wr.heap.size cu) w.heap.size cs w0.heap.size (.slice ax rs.length cx) (.slice bx (rs ++ ((List.range t.is.length).take i).flatMap (lnx t)).length dx) (rs ++ ((List.range t.is.length).take i).flatMap (lnx t))) := HG.out.step (by have := HK1.out.2; omega) (fun q hq e => by have := HVB.out q hq; omega) ((Kp.of_below (S := fun _ => False) HIT.out.b).owns HG.out.o (fun _ _ h => h)) (Kp.of_below HIT.out.b) (.inl rfl)
        have HCA := hide (HIH.out u hmem w0 cu hcu (Nat.le_trans (tmuchL_mem hmem) HML.out.1) _ _ _ (HBW.out.trans (HIT.out.b.mono HBW.out.size)) HGI.out.o (by
          have h1 := HLN.out
          rw [HE.out, List.length_append] at h1
          rw [List.append_assoc, ← hfl, List.length_append]
          omega))
        rw [List.append_assoc, ← hfl] at HCA
        clear hu hcells hcu hcc hmem hfl hle
        generalize hnn : (rs ++ ((List.range t.is.length).take i).flatMap (lnx t)).length = nn at *
        clear hnn
        go_wp2_with (first
          | (refine wpList_valAt rfl rfl b (off + i * 13) cu rfl HZ1.out HCC.out ?_)
          | (refine wpList_storeRow rfl rfl wr.heap.size zv cu 38 rfl rfl HGN.out HIN.out HZV.out HA1.out ?_)
          | (refine wpList_valAt rfl rfl wr.heap.size 0 cu rfl HZ1.out HCX.out ?_))
        refine HCA.out.mono ?_
        rintro e w5 ⟨v5, rfl, ho5, hk5, hq5⟩
        have HG5 := hide (HGI.out.step (by have := HK1.out.2; omega) (fun q hq e => by have := HVB.out q hq; omega) ho5 hk5 hq5)
        clear ho5 hk5 hq5 HCA HGI HCX HIT HGN HCC
        go_wp2_with fail
        go_roundw
        case rel => exact ⟨i + 1, by omega, by go_num, HG5⟩
        case measure => simp [intOf]; omega
      · as_aux_lemma =>
        have g1 : ¬ (i : Int) < (t.is.length : Int) := by omega
        have hL : i = t.is.length := by omega
        have HGE : Hid (Gth w1 wr w.heap.size cs w0.heap.size (.slice ax rs.length cx) (.slice bx (rs ++ ((List.range t.is.length).take i).flatMap (lnx t)).length dx) (rs ++ lnkf t)) := by
          have h := HG.out
          rw [HE.out]
          have e : (List.range t.is.length).take i = (List.range t.is.length) := List.take_of_length_le (by simp; omega)
          rw [e] at h ⊢
          exact h
        clear HG
        generalize (rs ++ ((List.range t.is.length).take i).flatMap (lnx t)).length = nn at *
        go_wp2_with fail
        go_ret
        exact ⟨_, rfl, by first | exact HGE.out.o | (have h := HGE.out.o; rw [List.length_append] at h; exact h), HK1.out.1.trans HGE.out.k (fun _ _ h => h), HGE.out.q.imp id (fun ⟨q, h1, h2⟩ => ⟨q, h1, by have := HK1.out.2; omega⟩)⟩
  have g8 : (t.k == 8) = false := beq_eq_false_iff_ne.2 h8
  by_cases h9 : t.k = 9
  · have g9 : (t.k == 9) = true := beq_iff_eq.2 h9
    have HE0 : Hid (lnkf t = (ordp t.ks (min t.ks.length t.is.length)).flatMap (lnx t)) := by
      show _ = _
      rw [lnkf_n h7 (.inr h9)]
      unfold pls
      rw [if_neg h8]
    have HV0 : Hid (∀ j u, cs[j]? = some u → (w.alloc (.cells cs 38)).cell? ⟨w.heap.size, 0 + j, none⟩ = some u) := fun j u hu => by rw [Nat.zero_add]; exact blk_cell HG0.out.r hu
    clear h7 h8 h9
    go_enter Tryd.func24, Tryd.ntmps24
    go_wp2_with (refine wpList_valAt rfl rfl w.heap.size 0 cs rfl HSZ.out HV0.out ?_)
    refine (order6_any t _ cs ((HT0.out.move (keep_below HB0.out)).move (keep_below (below_alloc4 w _))) (by have := HML.out; omega)).mono ?_
    rintro e w2 ⟨vp, ps, rfl, hpo, hsp, hop, hb2⟩
    have HE : Hid (lnkf t = ps.flatMap (lnx t)) := by show _ = _; rw [HE0.out, hpo]
    clear hpo HE0
    have HSP := hide hsp
    have hpl : ps.length ≤ 100000 := by have := hsp.len; have := HML.out; omega
    have hi2 := ISl.own hop rfl (by omega)
    have e1 : (w.alloc (.cells cs 38)).heap.size = w.heap.size + 1 := by simp
    have HK1 : Hid (Kp (fun q => (Value.slice ax rs.length cx).ownBlock = some q) w w2 ∧ w.heap.size < w2.heap.size) := ⟨(Kp.of_below (below_alloc4 w _)).trans (Kp.of_below hb2) (fun _ _ h => h), by have := hb2.size; omega⟩
    have HB1 : Hid (Below w0.heap.size w0 w2) := (HB0.out.trans ((below_alloc4 w _).mono HB0.out.size)).trans (hb2.mono (by have := HB0.out.size; omega))
    have hpg : ∀ q, vp.ownBlock = some q → w.heap.size < q := fun q hq => by
      have := hop.lt q hq
      omega
    obtain ⟨⟨pa, pc, rfl, _, hpf⟩, _⟩ := hi2
    have HPG : Hid (∀ q, (Value.slice pa ps.length pc).ownBlock = some q → w.heap.size < q) := hpg
    have HPF := hide hpf
    have HG1 : Hid (Gth w2 w2 w.heap.size cs w0.heap.size (.slice ax rs.length cx) (.slice ax rs.length cx) rs) := ⟨(Kp.of_below (S := fun _ => False) hb2).owns HG0.out.o (fun _ _ h => h), Kp.refl _ _, (hb2.block _ (by omega)).trans HG0.out.r, .inl rfl⟩
    clear hsp hop hb2 hpf hpg e1 HG0 HV0 q0
    go_wp2_with fail
    go_loopw [0, 36] (fun vv ii wx => ∃ i : Nat, i ≤ ps.length ∧ ii = .int .i64 (i : Nat) ∧ Hid (Gth w2 wx w.heap.size cs w0.heap.size (.slice ax rs.length cx) vv (rs ++ (ps.take i).flatMap (lnx t)))) (fun _ ii _ => ps.length - (intOf ii).toNat)
    case atStart => exact ⟨0, by omega, rfl, by simpa using HG1⟩
    case round =>
      obtain ⟨i, hi, rfl, HG⟩ := hrel
      clear HG1
      obtain ⟨bx, dx, hux⟩ := own_slice HG.out.o
      subst hux
      have HBW := hide (HG.out.below HB1.out (fun q hq => (HVB.out q hq).1))
      by_cases hlt : i < ps.length
      · as_aux_lemma =>
        have g1 : (i : Int) < (ps.length : Int) := by omega
        obtain ⟨p, hp⟩ : ∃ p, ps[i]? = some p := ⟨ps[i], List.getElem?_eq_getElem hlt⟩
        have hpl := HSP.out.lt p (List.mem_of_getElem? hp)
        have hp2 : p < t.is.length := by omega
        obtain ⟨u, hu⟩ : ∃ u, t.is[p]? = some u := ⟨t.is[p], List.getElem?_eq_getElem hp2⟩
        obtain ⟨b, off, rfl, hcells⟩ := HF.out.resolve_left (fun h => by rw [h] at hp2; simp at hp2)
        obtain ⟨cu, hcu, hcc⟩ := hcells p u hu
        obtain ⟨b1, off1, rfl, hc1⟩ := HPF.out.resolve_left (fun h => by rw [h] at hlt; simp at hlt)
        have HCC : Hid (∀ j x, cu[j]? = some x → wr.cell? ⟨b, off + p * 13 + j, none⟩ = some x) := fun j x hx => keep_below HBW.out _ _ (hcc j x hx)
        have hmem := List.mem_of_getElem? hu
        have HZ1 := hide hcu.size13
        have c1 : wr.cell? ⟨b1, off1 + i, none⟩ = some (.int .i64 (p : Nat)) := HG.out.k.cell (hc1 i p hp) (fun e => by have h1 := HVB.out b1 e; have h2 := HPG.out b1 rfl; omega)
        have c12 : wr.cell? ⟨w.heap.size, 12, none⟩ = some (.slice (some ⟨b, off, none⟩) t.is.length ci) := blk_cell HG.out.r HC12.out
        have g2 : (p : Int) < (t.is.length : Int) := by omega
        have hfl : (ps.take (i + 1)).flatMap (lnx t) = (ps.take i).flatMap (lnx t) ++ lnkf u := by rw [flat_take hp, lnx_at hu]
        have hle := flat_le (t := t) (ps := ps) (i + 1)
        have HCA := hide (HIH.out u hmem w0 cu hcu (Nat.le_trans (tmuchL_mem hmem) HML.out.1) wr _ _ HBW.out HG.out.o (by
          have h1 := HLN.out
          rw [HE.out, List.length_append] at h1
          rw [List.append_assoc, ← hfl, List.length_append]
          omega))
        rw [List.append_assoc, ← hfl] at HCA
        have HGI := hide HG.out
        clear hu hcells hcu hcc hmem hfl hle hc1 hp HG
        generalize hnn : (rs ++ (ps.take i).flatMap (lnx t)).length = nn at *
        clear hnn
        go_wp2_with (refine wpList_valAt rfl rfl b (off + p * 13) cu rfl HZ1.out HCC.out ?_)
        refine HCA.out.mono ?_
        rintro e w5 ⟨v5, rfl, ho5, hk5, hq5⟩
        have HG5 := hide (HGI.out.step (by have := HK1.out.2; omega) (fun q hq e => by have := HVB.out q hq; omega) ho5 hk5 hq5)
        clear ho5 hk5 hq5 HCA HGI HCC c1 c12
        go_wp2_with fail
        go_roundw
        case rel => exact ⟨i + 1, by omega, by go_num, HG5⟩
        case measure => simp [intOf]; omega
      · as_aux_lemma =>
        have g1 : ¬ (i : Int) < (ps.length : Int) := by omega
        have hL : i = ps.length := by omega
        have HGE : Hid (Gth w2 wr w.heap.size cs w0.heap.size (.slice ax rs.length cx) (.slice bx (rs ++ (ps.take i).flatMap (lnx t)).length dx) (rs ++ lnkf t)) := by
          have h := HG.out
          rw [HE.out]
          have e : ps.take i = ps := List.take_of_length_le (by omega)
          rw [e] at h ⊢
          exact h
        clear HG
        generalize (rs ++ (ps.take i).flatMap (lnx t)).length = nn at *
        go_wp2_with fail
        go_ret
        exact ⟨_, rfl, by first | exact HGE.out.o | (have h := HGE.out.o; rw [List.length_append] at h; exact h), HK1.out.1.trans HGE.out.k (fun _ _ h => h), HGE.out.q.imp id (fun ⟨q, h1, h2⟩ => ⟨q, h1, by have := HK1.out.2; omega⟩)⟩
  · as_aux_lemma =>
    have g9 : (t.k == 9) = false := beq_eq_false_iff_ne.2 h9
    have HE : Hid (lnkf t = []) := lnkf_0 h7 (fun h => h.elim h8 h9)
    clear h7 h8 h9
    go_enter Tryd.func24, Tryd.ntmps24
    go_wp2_with fail
    go_ret
    exact ⟨_, rfl, by rw [HE.out, List.append_nil]; exact HG0.out.o, HG0.out.k, .inl rfl⟩
theorem gathered_any (t : Tv) : GatC t := by
  have h : ∀ N, ∀ t : Tv, SizeOf.sizeOf t = N → GatC t := by
    intro N
    induction N using Nat.strongRecOn with
    | _ N ih => exact fun t hN => gathered_step t (fun u hu => ih _ (by rw [← hN]; exact Tv.is_lt hu) u rfl)
  exact h _ t rfl
end
section
open Go.RowKit Go
theorem sum_range (is : List Tv) (g : Nat → Nat) (hg : ∀ p u, is[p]? = some u → g p ≤ tmuch u) : ∀ n, n ≤ is.length → ((List.range n).map g).sum ≤ tmuchL (is.take n)
  | 0, _ => by simp
  | n + 1, h => by
    have ih := sum_range is g hg n (by omega)
    have hu := List.getElem?_eq_getElem (show n < is.length by omega)
    have h1 := hg n _ hu
    rw [List.range_succ, List.map_append, List.sum_append, takeT _ _ _ hu, tmuchL_app]
    have e : tmuchL [is[n]] = tmuch is[n] := by rw [tmuchL, tmuchL]; omega
    rw [e]
    simp
    omega
theorem tmuchL_take (is : List Tv) (n : Nat) : tmuchL (is.take n) ≤ tmuchL is := by
  have h : tmuchL is = tmuchL (is.take n) + tmuchL (is.drop n) := by rw [← tmuchL_app, List.take_append_drop]
  omega
theorem pls_perm (t : Tv) : ∃ n, n ≤ t.is.length ∧ (pls t).Perm (List.range n) := by
  unfold pls
  by_cases h : t.k = 8
  · rw [if_pos h]
    exact ⟨_, Nat.le_refl _, List.Perm.refl _⟩
  · rw [if_neg h]
    exact ⟨_, by omega, (ordp_srp t.ks (min t.ks.length t.is.length)).p⟩
/-- No more links than parts. -/
theorem lnkf_le (t : Tv) : (lnkf t).length ≤ tmuch t := by
  have h : ∀ N, ∀ t : Tv, SizeOf.sizeOf t = N → (lnkf t).length ≤ tmuch t := by
    intro N
    induction N using Nat.strongRecOn with
    | _ N ih =>
      intro t hN
      have hme := tmuch_eq t
      by_cases h7 : t.k = 7
      · rw [lnkf_7 h7]
        simp
        omega
      · by_cases h8 : t.k = 8 ∨ t.k = 9
        · rw [lnkf_n h7 h8]
          obtain ⟨n, hn, hp⟩ := pls_perm t
          have e : ((pls t).flatMap (lnx t)).length = ((pls t).map (fun p => (lnx t p).length)).sum := by rw [List.length_flatMap]
          have e2 : ((pls t).map (fun p => (lnx t p).length)).sum = ((List.range n).map (fun p => (lnx t p).length)).sum := (hp.map _).sum_nat
          rw [e, e2]
          have h1 := sum_range t.is (fun p => (lnx t p).length) (fun p u hu => by
            rw [lnx_at hu]
            exact ih _ (by rw [← hN]; exact Tv.is_lt (List.mem_of_getElem? hu)) u rfl) n hn
          have h2 := tmuchL_take t.is n
          omega
        · rw [lnkf_0 h7 h8]
          simp
  exact h _ t rfl
set_option maxRecDepth 1000000 in
theorem links6_any (t : Tv) (w : World) (cs : Array Value) (ht : Tin w t cs) (hm : tmuch t ≤ 100000) : Calls Tryd.prog 12 #[.agg cs] w fun e w' => ∃ v', e = .returned v' ∧ w'.ownsRow w.heap.size 36 4 v' (lnkf t).length (fcl (lnkf t)) ∧ Below w.heap.size w w' := by
  have HTN := hide ht
  have HSZ := hide ht.size13
  have HQ0 : Hid (Aln w (w.alloc (.cells cs 38)) cs) := box_mk0 w _
  have HV0 := hide HQ0.out.va
  have HLE := hide (Nat.le_trans (lnkf_le t) hm)
  have HMM := hide hm
  clear ht hm
  have HCA := hide (gathered_any t w cs HTN.out HMM.out (w.alloc (.cells cs 38)) (.slice none 0 0) [] HQ0.out.1 (World.ownsRow_nil _ _ _ _) (by have := HLE.out; rw [List.nil_append]; omega))
  go_enter Tryd.func12, Tryd.ntmps12
  go_wp2_with (refine wpList_valAt rfl rfl w.heap.size 0 cs rfl HSZ.out HV0.out ?_)
  refine HCA.out.mono ?_
  rintro e w1 ⟨v1, rfl, ho, hk, _⟩
  rw [List.nil_append] at ho
  have HO := hide ho
  have HB1 : Hid (Below w.heap.size w w1) := HQ0.out.1.trans ((hk.below (Nat.le_refl _) (fun q h => by cases h)).mono HQ0.out.1.size)
  clear ho hk HCA HQ0 HV0
  go_wp2_with fail
  go_ret
  exact ⟨_, rfl, HO.out, HB1.out⟩
end
section
open Go.RowKit Go
/-! Sorted values once more: one sorted value, its depth, its links; values with maps' entries in another order. -/
theorem tv_ext {a b : Tv} (h : Top a b) (hk : a.ks = b.ks) (hi : a.is = b.is) : a = b := by
  obtain ⟨k, f, g, n, c, s, y, l, ks, is⟩ := a
  obtain ⟨k', f', g', n', c', s', y', l', ks', is'⟩ := b
  obtain ⟨h1, h2, h3, h4, h5, h6, h7, h8⟩ := h
  simp only [Tv.k, Tv.f, Tv.g, Tv.n, Tv.b, Tv.s, Tv.y, Tv.l, Tv.ks, Tv.is] at *
  subst h1 h2 h3 h4 h5 h6 h7 h8 hk hi
  rfl
theorem Top.both {t a b : Tv} (h : Top t a) (h' : Top t b) : Top a b := ⟨h'.k.trans h.k.symm, h'.f.trans h.f.symm, h'.g.trans h.g.symm, h'.n.trans h.n.symm, h'.b.trans h.b.symm, h'.s.trans h.s.symm, h'.y.trans h.y.symm, h'.l.trans h.l.symm⟩
/-- There is one sorted value. -/
theorem srt_one {t s : Tv} (h : SrtR t s) : ∀ {s' : Tv}, Trk t → SrtR t s' → s = s' := by
  induction h with
  | rest t s h9 hT hk hn hi ih =>
    intro s' ht h'
    cases h' with
    | map _ _ _ h9' => exact absurd h9' h9
    | rest _ _ _ hT' hk' hn' hi' =>
      refine tv_ext (hT.both hT') (hk.trans hk'.symm) (List.ext_getElem? fun i => ?_)
      by_cases hl : i < t.is.length
      · have e1 := List.getElem?_eq_getElem hl
        have e2 := List.getElem?_eq_getElem (show i < s.is.length by omega)
        have e3 := List.getElem?_eq_getElem (show i < s'.is.length by omega)
        rw [e2, e3, ih i _ _ e1 e2 (ht.i _ (List.getElem_mem hl)) (hi' i _ _ e1 e3)]
      · rw [List.getElem?_eq_none (by omega), List.getElem?_eq_none (by omega)]
  | map t s ps h9 hT hp hk hn hi ih =>
    intro s' ht h'
    cases h' with
    | rest _ _ h9' => exact absurd h9 h9'
    | map _ _ ps' _ hT' hp' hk' hn' hi' =>
      obtain ⟨hlen, hnd, _⟩ := ht.m h9
      have e := srp_one hnd (by omega) hp hp'
      subst e
      refine tv_ext (hT.both hT') (hk.trans hk'.symm) (List.ext_getElem? fun i => ?_)
      by_cases hl : i < ps.length
      · have e0 := List.getElem?_eq_getElem hl
        have hpl := hp.lt ps[i] (List.getElem_mem hl)
        have e1 := List.getElem?_eq_getElem (show ps[i] < t.is.length by omega)
        have e2 := List.getElem?_eq_getElem (show i < s.is.length by omega)
        have e3 := List.getElem?_eq_getElem (show i < s'.is.length by omega)
        rw [e2, e3, ih i _ _ _ e0 e1 e2 (ht.i _ (List.getElem_mem _)) (hi' i _ _ _ e0 e1 e3)]
      · rw [List.getElem?_eq_none (by omega), List.getElem?_eq_none (by omega)]
theorem pls_srp {t : Tv} (h8 : t.k ≠ 8) : Srp t.ks (min t.ks.length t.is.length) (pls t) := by
  unfold pls
  rw [if_neg h8]
  exact ordp_srp _ _
end
section
open Go.RowKit Go
/-! What passes is a tree (cut out of Tb6: hangs on no link). -/
/-- A value that passes is a tree. -/
theorem onef_0 {t : Tv} {a : Nat} (h : onef t a = 0) : ¬ ((t.k = 8 ∨ t.k = 9) ∧ 1024 ≤ a) ∧ tidyf t = true ∧ finb t.b = true ∧ (badb t.s || t.ks.any badb) = false ∧ ¬ (t.k = 7 ∧ ¬ lok t.l) ∧ ¬ (t.k = 9 ∧ ¬ (t.ks.length = t.is.length ∧ t.ks.Nodup)) := by
  unfold onef at h
  split at h
  · cases h
  · rename_i h1
    split at h
    · cases h
    · rename_i h2
      split at h
      · cases h
      · rename_i h3
        split at h
        · cases h
        · rename_i h4
          split at h
          · cases h
          · rename_i h5
            split at h
            · cases h
            · rename_i h6
              exact ⟨h1, by simpa using h2, by simpa using h3, by simpa using h4, h5, h6⟩
theorem chkL_all {l : List Tv} {a : Nat} (h : chkL l a = 0) : ∀ u ∈ l, chkf u a = 0 := by
  intro u hu
  obtain ⟨i, hi⟩ := List.getElem?_of_mem hu
  have key : ∀ N i : Nat, i < N → ∀ v, l[i]? = some v → chkf v a = 0 := by
    intro N
    induction N with
    | zero => intro i hi; omega
    | succ N ih =>
      intro i hi v hv
      rcases Nat.lt_or_ge i N with h1 | h1
      · exact ih i h1 v hv
      · rcases Nat.eq_zero_or_pos (chkf v a) with e | e
        · exact e
        · have := chkL_at (i := i) (fun j w hj hw => ih j (by omega) w hw) hv (by omega)
          omega
  exact key (i + 1) i (by omega) u hi
theorem chkf_0 {t : Tv} {a : Nat} (h : chkf t a = 0) : onef t a = 0 ∧ ∀ u ∈ t.is, chkf u (a + 1) = 0 := by
  rw [chkf_eq] at h
  split at h
  · rename_i h1
    exact ⟨h1, chkL_all h⟩
  · rename_i h1
    exact absurd h h1
theorem tidy_k {t : Tv} (h : tidyf t = true) : 1 ≤ t.k ∧ t.k ≤ 9 ∧ t.zr.cl = true := by
  unfold tidyf at h
  rw [Bool.and_eq_true, decide_eq_true_eq] at h
  exact ⟨h.1.1, h.1.2, h.2⟩
theorem cl_all {t : Tv} (h : t.cl = true) : t.f = false ∧ t.g = false ∧ t.n = 0 ∧ t.b = 0 ∧ t.s = ⟨#[]⟩ ∧ t.l = ⟨0, 0, 0, []⟩ ∧ t.y = [] ∧ t.ks = [] ∧ t.is = [] := by
  unfold Tv.cl at h
  simp only [Bool.and_eq_true, Bool.not_eq_true', decide_eq_true_eq, List.isEmpty_iff] at h
  exact h
theorem tidy_9 {t : Tv} (h : tidyf t = true) (h9 : t.k = 9) : t.f = false ∧ t.g = false ∧ t.n = 0 ∧ t.b = 0 ∧ t.s = ⟨#[]⟩ ∧ t.y = [] ∧ t.l = ⟨0, 0, 0, []⟩ := by
  have h1 := (tidy_k h).2.2
  have e : t.zr = .mk t.k t.f t.g t.n t.b t.s t.y t.l [] [] := by unfold Tv.zr; simp [h9]
  rw [e] at h1
  obtain ⟨a1, a2, a3, a4, a5, a6, a7, _⟩ := cl_all h1
  exact ⟨a1, a2, a3, a4, a5, a7, a6⟩
theorem tidy_ks {t : Tv} (h : tidyf t = true) (h9 : t.k ≠ 9) : t.ks = [] := by
  have h1 := (cl_all (tidy_k h).2.2).2.2.2.2.2.2.2.1
  have e : t.zr.ks = t.ks := by
    unfold Tv.zr
    rw [if_neg h9]
    repeat' split
    all_goals rfl
  rw [e] at h1
  exact h1
theorem tidy_is {t : Tv} (h : tidyf t = true) (h8 : t.k ≠ 8) (h9 : t.k ≠ 9) : t.is = [] := by
  have h1 := (cl_all (tidy_k h).2.2).2.2.2.2.2.2.2.2
  have e : t.zr.is = t.is := by
    unfold Tv.zr
    rw [if_neg h9, if_neg h8]
    repeat' split
    all_goals rfl
  rw [e] at h1
  exact h1
theorem chk_trk {t : Tv} {a : Nat} (h : chkf t a = 0) : Trk t := by
  have key : ∀ N, ∀ t : Tv, SizeOf.sizeOf t = N → ∀ a, chkf t a = 0 → Trk t := by
    intro N
    induction N using Nat.strongRecOn with
    | _ N ih =>
      intro t hN a h
      obtain ⟨h1, h2⟩ := chkf_0 h
      obtain ⟨_, htd, _, _, _, hks⟩ := onef_0 h1
      refine Trk.mk t (fun h9 => ?_) (fun h9 => tidy_ks htd h9) fun u hu => ih _ (by have := Tv.is_lt hu; omega) u rfl _ (h2 u hu)
      have h3 : t.ks.length = t.is.length ∧ t.ks.Nodup := by
        apply Classical.byContradiction
        intro hh
        exact hks ⟨h9, hh⟩
      exact ⟨h3.1, h3.2, tidy_9 htd h9⟩
  exact key _ t rfl a h
end
section
open Go.RowKit Go
/-! Maps' entries in another order. -/
end
section
open Go.RowKit Go

end
section
open Go.RowKit Go
theorem setK (t : Tv) (vy vK vI v : Value) : (vcs t vy vK vI).setIfInBounds 11 v = vcs t vy v vI := rfl
theorem setI (t : Tv) (vy vK vI v : Value) : (vcs t vy vK vI).setIfInBounds 12 v = vcs t vy vK v := rfl
end
section
open Go.RowKit Go

end
section
open Go.RowKit Go
set_option maxRecDepth 1000000 in
theorem num6_any (n : Int) (w : World) : Calls Tryd.prog 7 #[.int .i64 n] w fun e w' => e = .returned (.int .i64 n) ∧ w' = w := by
  go_enter Tryd.func7, Tryd.ntmps7
  go_wp2_with fail
  go_ret
  exact ⟨rfl, rfl⟩
/-- What wakes has in hand. -/
structure Wk (w wx : World) (g1 g2 : Nat) (c1 c2 : Array Value) : Prop where
  b : Below w.heap.size w wx
  x : wx.heap[g1]? = some (.cells c1 38 (0, 0))
  y : wx.heap[g2]? = some (.cells c2 38 (0, 0))
  t : Tin wx ttwo c1
  s : Tin wx ttwoS c2
  u : Tabs wx
theorem Wk.next {w wx wy : World} {g1 g2 : Nat} {c1 c2 : Array Value} (h : Wk w wx g1 g2 c1 c2) (hb : Below wx.heap.size wx wy) : Wk w wy g1 g2 c1 c2 :=
  ⟨h.b.trans (hb.mono h.b.size), (hb.block _ (blk_lt h.x)).trans h.x, (hb.block _ (blk_lt h.y)).trans h.y, h.t.move (keep_below hb), h.s.move (keep_below hb), h.u.next hb⟩
theorem Wk.vx {w wx : World} {g1 g2 : Nat} {c1 c2 : Array Value} (h : Wk w wx g1 g2 c1 c2) : ∀ j u, c1[j]? = some u → wx.cell? ⟨g1, 0 + j, none⟩ = some u := fun j u hu => by rw [Nat.zero_add]; exact blk_cell h.x hu
theorem Wk.vy {w wx : World} {g1 g2 : Nat} {c1 c2 : Array Value} (h : Wk w wx g1 g2 c1 c2) : ∀ j u, c2[j]? = some u → wx.cell? ⟨g2, 0 + j, none⟩ = some u := fun j u hu => by rw [Nat.zero_add]; exact blk_cell h.y hu
set_option maxRecDepth 1000000 in
set_option maxHeartbeats 2000000 in
theorem wakes_any (w : World) (hT : Tabs w) : Calls Tryd.prog 17 #[] w fun e w' => e = .returned (.bool true) ∧ Below w.heap.size w w' := by
  have HT := hide hT
  clear hT
  have HNU := hide (fun n W => num6_any n W)
  go_enter Tryd.func17, Tryd.ntmps17
  go_wp2_with fail
  refine (two_any w).mono ?_
  rintro e w1 ⟨c, rfl, ht, hb1⟩
  have HT1 := hide ht
  have HB1 := hide hb1
  have HSZ := hide ht.size13
  have HA1 := hide ht.all1
  have HIT := hide (itm_mk w1 c)
  have HG0 := hide (heap_alloc_new w1 (.cells zv 38))
  have HIN : Hid ((Tryd.prog.info? 38).map (·.size) = some c.size) := by show _ = _; rw [HSZ.out]; exact infoV
  have HZV : Hid (zv.size = c.size) := by show _ = _; rw [HSZ.out]; rfl
  have HCX := hide HIT.out.cells
  clear ht hb1
  go_wp2_with (first
    | (refine wpList_storeRow rfl rfl w1.heap.size zv c 38 rfl rfl HG0.out HIN.out HZV.out HA1.out ?_)
    | (refine wpList_valAt rfl rfl w1.heap.size 0 c rfl HSZ.out HCX.out ?_))
  refine (sorted6_any ttwo _ c (HT1.out.move (keep_below HIT.out.b)) (by have := two_much.1; omega)).mono ?_
  rintro e w3 ⟨c3, s, rfl, hS, hn, hb3⟩
  have hs := two_srt hS
  subst hs
  have HSR := hide hS
  have HT3 := hide hn.tin
  have HZ3 := hide hn.size
  have HA3 := hide hn.tin.all1
  have HX3 : Hid (w3.heap[w1.heap.size]? = some (.cells c 38 (0, 0))) := (hb3.block _ (blk_lt HIT.out.r)).trans HIT.out.r
  have HB3 : Hid (Below w.heap.size w w3 ∧ Tin w3 ttwo c) := ⟨(HB1.out.trans (HIT.out.b.mono HB1.out.size)).trans (hb3.mono (Nat.le_trans HB1.out.size HIT.out.b.size)), (HT1.out.move (keep_below HIT.out.b)).move (keep_below hb3)⟩
  clear hS hn hb3 HT1 HIT HG0 HCX HA1 HIN HZV
  have HIT := hide (itm_mk w3 c3)
  have HG0 := hide (heap_alloc_new w3 (.cells zv 38))
  have HIN : Hid ((Tryd.prog.info? 38).map (·.size) = some c3.size) := by show _ = _; rw [HZ3.out]; exact infoV
  have HZV : Hid (zv.size = c3.size) := by show _ = _; rw [HZ3.out]; rfl
  have HW4 : Hid (Wk w ((w3.alloc (.cells zv 38)).setRow w3.heap.size c3) w1.heap.size w3.heap.size c c3) := ⟨HB3.out.1.trans (HIT.out.b.mono HB3.out.1.size), (HIT.out.b.block _ (blk_lt HX3.out)).trans HX3.out, HIT.out.r, HB3.out.2.move (keep_below HIT.out.b), HT3.out.move (keep_below HIT.out.b), (HT.out.next HB3.out.1).next HIT.out.b⟩
  have HV4 := hide HW4.out.vx
  clear HX3 HB3 HT3 HT
  go_wp2_with (first
    | (refine wpList_storeRow rfl rfl w3.heap.size zv c3 38 rfl rfl HG0.out HIN.out HZV.out HA3.out ?_)
    | (refine wpList_valAt rfl rfl w1.heap.size 0 c rfl HSZ.out HV4.out ?_))
  refine (check6_any ttwo _ c HW4.out.t (by have := two_much.1; omega) HW4.out.u).mono ?_
  rintro e w5 ⟨rfl, hb5⟩
  rw [two_chk]
  have HW5 := hide (HW4.out.next hb5)
  clear hb5 HW4 HV4 HIT HG0 HIN HZV HA3
  go_wp2_with (go_at_call 7; refine (Hid.out HNU _ _).mono ?_; rintro e w' ⟨rfl, hww⟩; have hww := hww.symm; subst hww)
  refine (check6_any zt _ zv (tin_zero _) (by have := two_much.2.2.1; omega) HW5.out.u).mono ?_
  rintro e w6 ⟨rfl, hb6⟩
  rw [zero_chk]
  have HW6 := hide (HW5.out.next hb6)
  have HV6 := hide HW6.out.vx
  clear hb6 HW5
  go_wp2_with (first
    | (refine wpList_valAt rfl rfl w1.heap.size 0 c rfl HSZ.out HV6.out ?_)
    | (go_at_call 7; refine (Hid.out HNU _ _).mono ?_; rintro e w' ⟨rfl, hww⟩; have hww := hww.symm; subst hww))
  refine (depth_any ttwo _ c HW6.out.t (by rw [two_much.2.2.2]; omega)).mono ?_
  rintro e w7 ⟨rfl, hb7⟩
  rw [two_much.2.2.2]
  have HW7 := hide (HW6.out.next hb7)
  clear hb7 HW6 HV6
  obtain ⟨vy, vk, vi, hc3, _, hkk, _, _⟩ := HW7.out.s.parts
  have HKK := hide hkk
  obtain ⟨⟨ka, kc, hvk, _, _⟩, _, _⟩ := hkk
  have q11 : w7.cell? ⟨w3.heap.size, 11, none⟩ = some (.slice ka 2 kc) := blk_cell HW7.out.y (by rw [hc3, hvk]; rfl)
  have HKX : Hid (SSl w7 (.slice ka 2 kc) [sbb, saa]) := by
    have h := HKK.out
    rw [hvk] at h
    exact h
  have HNX : Hid (SSl (w7.alloc (.cells #[.string sbb, .string saa] 9)) (.slice (some ⟨w7.heap.size, 0, none⟩) 2 2) [sbb, saa]) := by
    refine ⟨⟨_, 2, rfl, ⟨by decide, fun h => by cases h⟩, .inr ⟨w7.heap.size, 0, rfl, fun j s hj => ?_⟩⟩, by decide, fun s hs => ?_⟩
    · rw [Nat.zero_add]
      match j, hj with
      | 0, hj =>
        injection hj with hj
        subst hj
        exact blk_cell (heap_alloc_new w7 _) rfl
      | 1, hj =>
        injection hj with hj
        subst hj
        exact blk_cell (heap_alloc_new w7 _) rfl
      | j + 2, hj => simp at hj
    · simp only [List.mem_cons, List.not_mem_nil, or_false] at hs
      rcases hs with rfl | rfl
      · show (1 : Nat) ≤ _
        decide
      · show (2 : Nat) ≤ _
        decide
  have HW8 := hide (HW7.out.next (below_alloc4 w7 (.cells #[.string sbb, .string saa] 9)))
  have HKY := hide (HKX.out.move (keep_below (below_alloc4 w7 (.cells #[.string sbb, .string saa] 9))))
  clear hc3 hvk HKK HKX HW7
  go_wp2_with fail
  refine (eqStrings_any HKY.out HNX.out).mono ?_
  rintro e w9 ⟨rfl, hb9⟩
  rw [decide_eq_true rfl]
  have HW9 := hide (HW8.out.next hb9)
  have HV9 := hide HW9.out.vx
  have HU9 := hide HW9.out.vy
  clear hb9 HW8 HKY HNX q11
  go_wp2_with (first
    | (refine wpList_valAt rfl rfl w1.heap.size 0 c rfl HSZ.out HV9.out ?_)
    | (refine wpList_valAt rfl rfl w3.heap.size 0 c3 rfl HZ3.out HU9.out ?_))
  refine (equal6_any ttwo ttwoS w9 c c3 HW9.out.t HW9.out.s (by have := two_much.1; omega) (by have := two_much.2.1; omega)).mono ?_
  rintro e w10 ⟨rfl, hb10⟩
  rw [two_eq HSR.out]
  have HW10 := hide (HW9.out.next hb10)
  clear hb10 HW9 HV9 HU9
  go_wp2_with fail
  refine (before_any sbb saa w10).mono ?_
  rintro e w11 ⟨rfl, hww⟩
  have hww := hww.symm
  subst hww
  have HBF : Hid (bfr (sl sbb) (sl saa) = true) := by show _ = _; decide +kernel
  rw [HBF.out]
  go_wp2_with fail
  go_ret
  exact ⟨rfl, HW10.out.b⟩
end
section
open Go.RowKit Go
/-- A variable that holds a lent value. -/
structure Vr (wx : World) (g : Nat) (c : Array Value) (u : Tv) : Prop where
  x : wx.heap[g]? = some (.cells c 38 (0, 0))
  l : ∃ lo hi, Ltv wx lo hi u c
theorem Vr.size {wx : World} {g : Nat} {c : Array Value} {u : Tv} (h : Vr wx g c u) : c.size = 13 := by obtain ⟨lo, hi, hl⟩ := h.l; exact hl.size
theorem Vr.cells {wx : World} {g : Nat} {c : Array Value} {u : Tv} (h : Vr wx g c u) : ∀ j x, c[j]? = some x → wx.cell? ⟨g, 0 + j, none⟩ = some x := fun j x hx => by rw [Nat.zero_add]; exact blk_cell h.x hx
theorem exec_valAt {o : Oper} {a : Act} {p : Operand} {g off : Nat} {cs : Array Value} {w : World} (ho : o.op = .load 38 p) (hp : a.eval p = .pointer (some ⟨g, off, none⟩)) (hn : cs.size = 13) (hc : ∀ j u, cs[j]? = some u → w.cell? ⟨g, off + j, none⟩ = some u) : (execOp a.eval o).run Tryd.prog w = .ok (.value (.agg cs)) w := by
  unfold execOp
  have hr := load_val (w := w) g off cs hn hc
  simp only [ho, Sem.run_bind, hp, hr, Result.andThen_ok]
  rfl
theorem tdepthL_much : ∀ (l : List Tv), (∀ u ∈ l, tdepth u ≤ tmuch u) → tdepthL l ≤ tmuchL l
  | [], _ => by simp [tdepthL]
  | t :: r, h => by
    have h1 := h t (List.mem_cons_self ..)
    have h2 := tdepthL_much r (fun u hu => h u (List.mem_cons_of_mem _ hu))
    rw [tdepthL, tmuchL]
    omega
theorem tdepth_much (t : Tv) : tdepth t ≤ tmuch t := by
  have h : ∀ N, ∀ t : Tv, SizeOf.sizeOf t = N → tdepth t ≤ tmuch t := by
    intro N
    induction N using Nat.strongRecOn with
    | _ N ih =>
      intro t hN
      have h1 := tdepthL_much t.is (fun u hu => ih _ (by rw [← hN]; exact Tv.is_lt hu) u rfl)
      have h2 := tmuch_eq t
      rw [tdepth_eq]
      split <;> omega
  exact h _ t rfl
end
section
open Go.RowKit Go
theorem wp_append_at {o : Oper} {a : Act} {K : Act → World → Prop} {Q : Exit → Act → World → Prop} {w : World} (s x : Operand) (t : TypeId) (ho : o.op = .call { callee := .builtin .append, args := #[s, x], argTypes := #[t, t] })
    (base : Nat) (e : TypeId) (i : TypeInfo) (z : Value) (size bytes : Nat) (ht : Tryd.prog.underlying t = some (.slice e)) (hi : Tryd.prog.info? e = some i) (hz : i.zero = some z) (hsize : i.size = size) (hby : i.bytes = bytes) (hzs : z.cells.size = size) (hsz : 0 < size)
    (v : Value) (n : Nat) (xs : List Value) (hs : a.eval s = v) (hown : w.ownsRow base e size v n xs) (ad : Addr) (m c : Nat) (news : List Value) (hx : a.eval x = .slice (some ad) m c) (hl : news.length = m * size) (hnews : ∀ j u, news[j]? = some u → w.cell? (ad.add j) = some u) (h1 : ∀ u ∈ news, u.oneCell' = true)
    (h63 : n + m ≤ maxLen) (hbytes : (n + m) * bytes ≤ 140737488355328) (hbase : base ≤ w.heap.size)
    (h : ∀ v' w', w'.ownsRow base e size v' (n + m) (xs ++ news) → w.grownBy w' v.ownBlock → (v'.ownBlock = v.ownBlock ∨ v'.ownBlock = some w.heap.size) → K (a.put o.dst v') w') : Oper.wp Tryd.prog o a w K Q := by
  obtain ⟨v', w', hr, h2, h3, _, h5⟩ := run_append_own_at (P := Tryd.prog) w base t o.type e i z size bytes ht hi hz hsize hby hzs hsz v n xs hown ad m c news hl hnews h1 h63 hbytes hbase
  unfold Oper.wp execOp
  simp only [ho, resolve, invoke, builtin, Sem.run_bind, Sem.run_pure, Result.andThen_ok, List.map_toArray, List.map_cons, List.map_nil, hs, hx, hr]
  exact h v' w' h2 h3 h5
theorem add0 (g j : Nat) : (⟨g, 0, none⟩ : Addr).add j = ⟨g, j, none⟩ := by unfold Addr.add; split <;> simp_all
theorem step_append_val {ops : Array Oper} {o : Oper} {a : Act} {K : Act → World → Prop} {Q : Exit → Act → World → Prop} {w : World} (hw : Region.wanted o (yielded ops a.tmps) = true) (s x : Operand)
    (ho : o.op = .call { callee := .builtin .append, args := #[s, x], argTypes := #[22, 22] }) (B : Nat) (v : Value) (n : Nat) (ds : List Value) (hs : a.eval s = v) (hown : w.ownsRow B 38 13 v n ds)
    (g : Nat) (c : Array Value) (h13 : one13 c) (hx : a.eval x = .slice (some ⟨g, 0, none⟩) 1 1) (hg : w.heap[g]? = some (.cells c 38 (0, 0))) (hlen : n < 1099511627) (hbase : B ≤ w.heap.size)
    (h : ∀ v' w', w'.ownsRow B 38 13 v' (n + 1) (ds ++ c.toList) → w.grownBy w' v.ownBlock → (v'.ownBlock = v.ownBlock ∨ v'.ownBlock = some w.heap.size) → K (a.put o.dst v') w') : if Region.wanted o (yielded ops a.tmps) = true then Oper.wp Tryd.prog o a w K Q else K (a.put o.dst undef) w := by
  rw [if_pos hw]
  obtain ⟨i, hi, hz0, hz1, hz2⟩ := infoV_ex
  refine wp_append_at s x 22 ho B 38 i _ 13 160 Tryd.underlying22 hi hz0 hz1 hz2 rfl (by decide) v n ds hs hown ⟨g, 0, none⟩ 1 1 c.toList hx (by rw [Array.length_toList, h13.1]) (fun j u hu => ?_) h13.2 (by unfold maxLen; omega) (by omega) hbase h
  rw [add0]
  exact blk_cell hg (by simpa using hu)
theorem step_append_str {ops : Array Oper} {o : Oper} {a : Act} {K : Act → World → Prop} {Q : Exit → Act → World → Prop} {w : World} (hw : Region.wanted o (yielded ops a.tmps) = true) (s x : Operand)
    (ho : o.op = .call { callee := .builtin .append, args := #[s, x], argTypes := #[26, 26] }) (B : Nat) (v : Value) (n : Nat) (ks : List ByteArray) (hs : a.eval s = v) (hown : w.ownsRow B 9 1 v n (sv ks))
    (g : Nat) (str : ByteArray) (hx : a.eval x = .slice (some ⟨g, 0, none⟩) 1 1) (hg : w.heap[g]? = some (.cells #[.string str] 9 (0, 0))) (hlen : n < 1099511627) (hbase : B ≤ w.heap.size)
    (h : ∀ v' w', w'.ownsRow B 9 1 v' (n + 1) (sv (ks ++ [str])) → w.grownBy w' v.ownBlock → (v'.ownBlock = v.ownBlock ∨ v'.ownBlock = some w.heap.size) → K (a.put o.dst v') w') : if Region.wanted o (yielded ops a.tmps) = true then Oper.wp Tryd.prog o a w K Q else K (a.put o.dst undef) w := by
  rw [if_pos hw]
  obtain ⟨i, hi, hz0, hz1, hz2⟩ := info9_ex
  have e : sv (ks ++ [str]) = sv ks ++ [.string str] := by simp [sv]
  refine wp_append_at s x 26 ho B 9 i _ 1 16 Tryd.underlying26 hi hz0 hz1 hz2 rfl (by decide) v n (sv ks) hs hown ⟨g, 0, none⟩ 1 1 [.string str] hx rfl (fun j u hu => ?_) (fun u hu => by rw [List.mem_singleton.1 hu]; rfl) (by unfold maxLen; omega) (by omega) hbase (fun v' w' h1 h2 h3 => h v' w' (by rw [e]; exact h1) h2 h3)
  rw [add0]
  exact blk_cell hg (by simpa using hu)
theorem step_val1 {ops : Array Oper} {o : Oper} {a : Act} {K : Act → World → Prop} {Q : Exit → Act → World → Prop} {w : World} (hw : Region.wanted o (yielded ops a.tmps) = true) {x0 : Operand} (ho : o.op = .buildSlice 22 1 #[(0, x0)]) (c : Array Value) (hc : c.size = 13) (h0 : a.eval x0 = .agg c)
    (h : K (a.put o.dst (.slice (some ⟨w.heap.size, 0, none⟩) 1 1)) (w.alloc (.cells c 38))) : if Region.wanted o (yielded ops a.tmps) = true then Oper.wp Tryd.prog o a w K Q else K (a.put o.dst undef) w := by
  rw [if_pos hw]
  obtain ⟨i, hi, hz, hs, _⟩ := infoV_ex
  refine wp_buildSlice 22 38 1 _ ho c i _ Tryd.underlying22 hi hz (by rw [hs]; decide) (by rw [hs]; decide) ?_ h
  rw [hs]
  have e : ((#[(0, x0)] : Array (Nat × Operand)).map fun (i, x) => (i, a.eval x)).toList = [(0, .agg c)] := by simp [h0]
  rw [e]
  exact fill_one c _ hc (by simp)
end
section
open Go.RowKit Go
/-- The key at a place. -/
def kat (ks : List ByteArray) (p : Nat) : List Nat := sl (ks.getD p ⟨#[]⟩)
/-- Two rows of places being put into one. -/
structure Mrg (ks : List ByteArray) (a b : List Nat) (i k : Nat) (out : List Nat) : Prop where
  p : out.Perm (a.take i ++ b.take k)
  s : out.Pairwise (fun p q => bfr (kat ks q) (kat ks p) = false)
  r : ∀ p ∈ out, ∀ q, q ∈ a.drop i ∨ q ∈ b.drop k → bfr (kat ks q) (kat ks p) = false
theorem Mrg.start (ks : List ByteArray) (a b : List Nat) : Mrg ks a b 0 0 [] := ⟨by simp, by simp, by simp⟩
theorem pw_drop {R : Nat → Nat → Prop} {a : List Nat} (h : a.Pairwise R) {i x : Nat} (hx : a[i]? = some x) : ∀ q ∈ a.drop (i + 1), R x q := by
  have hi := (List.getElem?_eq_some_iff.1 hx).1
  have h2 : (a.drop i).Pairwise R := h.sublist (List.drop_sublist i a)
  rw [List.drop_eq_getElem_cons hi] at h2
  rw [List.getElem?_eq_getElem hi] at hx
  injection hx with hx
  subst hx
  exact fun q hq => List.rel_of_pairwise_cons h2 hq
theorem mem_drop_cons {a : List Nat} {i x q : Nat} (hx : a[i]? = some x) (hq : q ∈ a.drop i) : q = x ∨ q ∈ a.drop (i + 1) := by
  have hi := (List.getElem?_eq_some_iff.1 hx).1
  rw [List.drop_eq_getElem_cons hi] at hq
  rw [List.getElem?_eq_getElem hi] at hx
  injection hx with hx
  subst hx
  exact List.mem_cons.1 hq
theorem mem_drop_at {a : List Nat} {i x : Nat} (hx : a[i]? = some x) : x ∈ a.drop i := by
  have hi := (List.getElem?_eq_some_iff.1 hx).1
  rw [List.drop_eq_getElem_cons hi]
  rw [List.getElem?_eq_getElem hi] at hx
  injection hx with hx
  simp [hx]
theorem mem_drop_succ {a : List Nat} {i q : Nat} (hq : q ∈ a.drop (i + 1)) : q ∈ a.drop i := by
  have e : a.drop (i + 1) = (a.drop i).drop 1 := by rw [List.drop_drop]
  rw [e] at hq
  exact List.mem_of_mem_drop hq
theorem take_at2 {a : List Nat} {i x : Nat} (hx : a[i]? = some x) : a.take (i + 1) = a.take i ++ [x] := by
  have hi := (List.getElem?_eq_some_iff.1 hx).1
  rw [List.take_succ_eq_append_getElem hi]
  rw [List.getElem?_eq_getElem hi] at hx
  injection hx with hx
  rw [hx]
theorem Mrg.left {ks : List ByteArray} {a b out : List Nat} {i k x : Nat} (h : Mrg ks a b i k out) (ha : a.Pairwise (fun p q => bfr (kat ks q) (kat ks p) = false)) (hb : b.Pairwise (fun p q => bfr (kat ks q) (kat ks p) = false)) (hx : a[i]? = some x)
    (hy : ∀ y, b[k]? = some y → bfr (kat ks y) (kat ks x) = false) : Mrg ks a b (i + 1) k (out ++ [x]) := by
  refine ⟨?_, ?_, ?_⟩
  · rw [take_at2 hx]
    refine (h.p.append_right [x]).trans ?_
    rw [List.append_assoc, List.append_assoc]
    exact (List.perm_append_comm).append_left _
  · rw [List.pairwise_append]
    refine ⟨h.s, by simp, ?_⟩
    intro p hp q hq
    rw [List.mem_singleton] at hq
    subst hq
    exact h.r p hp q (.inl (mem_drop_at hx))
  · intro p hp q hq
    rw [List.mem_append, List.mem_singleton] at hp
    rcases hp with hp | rfl
    · rcases hq with hq | hq
      · exact h.r p hp q (.inl (mem_drop_succ hq))
      · exact h.r p hp q (.inr hq)
    · rcases hq with hq | hq
      · exact pw_drop ha hx q hq
      · have hkl : k < b.length := by
          rcases Nat.lt_or_ge k b.length with h1 | h1
          · exact h1
          · rw [List.drop_of_length_le h1] at hq; simp at hq
        have hk := List.getElem?_eq_getElem hkl
        rcases mem_drop_cons hk hq with rfl | hq
        · exact hy _ hk
        · exact bfr_nt _ _ _ (pw_drop hb hk q hq) (hy _ hk)
theorem Mrg.right {ks : List ByteArray} {a b out : List Nat} {i k y : Nat} (h : Mrg ks a b i k out) (ha : a.Pairwise (fun p q => bfr (kat ks q) (kat ks p) = false)) (hb : b.Pairwise (fun p q => bfr (kat ks q) (kat ks p) = false)) (hy : b[k]? = some y)
    (hx : ∀ x, a[i]? = some x → bfr (kat ks x) (kat ks y) = false) : Mrg ks a b i (k + 1) (out ++ [y]) := by
  refine ⟨?_, ?_, ?_⟩
  · rw [take_at2 hy, ← List.append_assoc]
    exact h.p.append_right [y]
  · rw [List.pairwise_append]
    refine ⟨h.s, by simp, ?_⟩
    intro p hp q hq
    rw [List.mem_singleton] at hq
    subst hq
    exact h.r p hp q (.inr (mem_drop_at hy))
  · intro p hp q hq
    rw [List.mem_append, List.mem_singleton] at hp
    rcases hp with hp | rfl
    · rcases hq with hq | hq
      · exact h.r p hp q (.inl hq)
      · exact h.r p hp q (.inr (mem_drop_succ hq))
    · rcases hq with hq | hq
      · have hil : i < a.length := by
          rcases Nat.lt_or_ge i a.length with h1 | h1
          · exact h1
          · rw [List.drop_of_length_le h1] at hq; simp at hq
        have hi := List.getElem?_eq_getElem hil
        rcases mem_drop_cons hi hq with rfl | hq
        · exact hx _ hi
        · exact bfr_nt _ _ _ (pw_drop ha hi q hq) (hx _ hi)
      · exact pw_drop hb hy q hq
theorem bfr_asym {x y : List Nat} (h : bfr x y = true) : bfr y x = false := by
  rcases Bool.eq_false_or_eq_true (bfr y x) with h2 | h2
  · have := bfr_tr _ _ _ h h2
    rw [bfr_self] at this
    exact absurd this (by simp)
  · exact h2
theorem kat_take {ks : List ByteArray} {h p : Nat} (hp : p < h) : kat (ks.take h) p = kat ks p := by
  unfold kat List.getD
  rw [List.getElem?_take_of_lt hp]
theorem kat_drop (ks : List ByteArray) (h p : Nat) : kat (ks.drop h) p = kat ks (h + p) := by
  unfold kat List.getD
  rw [List.getElem?_drop]
theorem srp_pw {ks : List ByteArray} {n : Nat} {ps : List Nat} (h : Srp ks n ps) : ps.Pairwise (fun p q => bfr (kat ks q) (kat ks p) = false) := h.pw
theorem srp_left {ks : List ByteArray} {h : Nat} {a : List Nat} (hs : Srp (ks.take h) h a) : a.Pairwise (fun p q => bfr (kat ks q) (kat ks p) = false) := by
  refine (srp_pw hs).imp_of_mem ?_
  intro p q hp hq e
  rw [kat_take (hs.lt p hp), kat_take (hs.lt q hq)] at e
  exact e
theorem srp_right {ks : List ByteArray} {h m : Nat} {b : List Nat} (hs : Srp (ks.drop h) m b) : (b.map (h + ·)).Pairwise (fun p q => bfr (kat ks q) (kat ks p) = false) := by
  rw [List.pairwise_map]
  refine (srp_pw hs).imp ?_
  intro p q e
  rw [kat_drop, kat_drop] at e
  exact e
theorem Mrg.done {ks : List ByteArray} {h n : Nat} {a b out : List Nat} (hm : Mrg ks a (b.map (h + ·)) a.length b.length out) (hs : Srp (ks.take h) h a) (ht : Srp (ks.drop h) (n - h) b) (hn : h ≤ n) : Srp ks n out := by
  refine ⟨?_, ?_⟩
  · refine hm.p.trans ?_
    rw [List.take_length, show b.length = (b.map (h + ·)).length by simp, List.take_length]
    have e : List.range n = List.range h ++ (List.range (n - h)).map (h + ·) := by
      have e2 : n = h + (n - h) := by omega
      conv => lhs; rw [e2]
      rw [List.range_add]
    rw [e]
    exact hs.p.append (ht.p.map _)
  · intro i j p q hij hp hq
    have h1 := List.pairwise_iff_getElem.1 hm.s i j (List.getElem?_eq_some_iff.1 hp).1 (List.getElem?_eq_some_iff.1 hq).1 hij
    rw [(List.getElem?_eq_some_iff.1 hp).2, (List.getElem?_eq_some_iff.1 hq).2] at h1
    exact h1
theorem Mrg.len {ks : List ByteArray} {a b out : List Nat} {i k : Nat} (h : Mrg ks a b i k out) (hi : i ≤ a.length) (hk : k ≤ b.length) : out.length = i + k := by
  rw [h.p.length_eq, List.length_append, List.length_take, List.length_take]
  omega
theorem srp_nil : Srp [] 0 [] := ⟨by simp, by simp⟩
theorem srp_single (s : ByteArray) : Srp [s] 1 [0] := ⟨by simp [List.range_succ], fun i j p q hij hp hq => by
  have h1 := (List.getElem?_eq_some_iff.1 hq).1
  simp at h1
  omega⟩
end
end Go.Proofs.YtglbllkmhedlfaaDoor
