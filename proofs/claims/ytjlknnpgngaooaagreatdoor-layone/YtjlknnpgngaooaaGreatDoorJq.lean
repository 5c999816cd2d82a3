import Derived.Test.YtjlknnpgngaooaaGreatDoorJb
import Derived.Test.YtjlknnpgngaooaaGreatDoorJg
import Derived.Lib.SmallJoins
import Derived.Test.YtjlknnpgngaooaaGreatDoorJc
import Derived.Test.YtjlknnpgngaooaaGreatDoorRows
import Derived.Lib.LaidU8T
import Derived.Lib.LaidIn
namespace Go.Proofs.YtjlknnpgngaooaaGreatDoor
section
open Go.ChangeShapes Go.WideShapes Go.ChangeAt Go.RowKit Go.Deep Go.Joins Go
theorem weight_le {H : Type} {t : TypeId} {d : DataW H} (h : (d.weights Tryz.prog t).all (· ≤ reachBytes) = true) {n : Nat} (hn : n ∈ d.weights Tryz.prog t) : n ≤ 140737488351232 := by
  have := List.all_eq_true.1 h n hn
  unfold reachBytes at this
  simpa using this
theorem weight_each {H : Type} {ts : List TypeId} {ds : List (DataW H)} (h : (DataW.weightsEach Tryz.prog ts ds).all (· ≤ reachBytes) = true) {j : Nat} {t : TypeId} {d : DataW H} (ht : ts[j]? = some t) (hd : ds[j]? = some d) : (d.weights Tryz.prog t).all (· ≤ reachBytes) = true :=
  List.all_eq_true.2 fun n hn => List.all_eq_true.1 h n (DataW.weights_mem_each ht hd n hn)
theorem bsl_open6 {H : Type} {enc : TypeId × Value → H} {w : World} {base fuel : Nat} {held : Bool} {v : Value} {x : DataW H × List MemPlace} (h : DataW.trod enc Tryz.prog w base (fun _ => true) held fuel 23 [v] = some x) (hW : (x.1.weights Tryz.prog 23).all (· ≤ reachBytes) = true) : ∃ xs, BSl w v xs ∧ xs.length ≤ 140737488351232 := by
  rcases open_ints Tryz.underlying23 Tryz.underlying5 Tryz.cells5 h with ⟨hcs, _⟩ | ⟨a, len, cap, zs, hcs, _, hl, hm, hz, hx, hcell, hwz⟩
  · injection hcs with hcs _
    subst hcs
    exact ⟨_, bsl_of_row none 0 0 [] (Nat.le_refl _) (Nat.zero_le _) rfl (by simp) (fun _ => rfl) (fun _ hh => by cases hh), by simp⟩
  · injection hcs with hcs _
    subst hcs
    simp only [if_true] at hz
    refine ⟨_, bsl_of_row (some a) len cap zs hl hm hz hwz (fun hh => by cases hh) (fun a' hh c hc => by cases hh; exact hcell c (by omega)), ?_⟩
    have h1 := weight_le hW (n := cap) (by rw [hx]; exact row_weight a len cap zs hz)
    have hlen : ((zs.take len).map Int.toNat).length = len := by simp; omega
    omega
theorem Tryz.bytesStr : Tryz.prog.bytesOf 9 = 16 := by kernel_rfl
theorem Tryz.bytesValue : Tryz.prog.bytesOf 65 = 160 := by kernel_rfl
theorem ssl_open {H : Type} {enc : TypeId × Value → H} {w : World} {base fuel : Nat} {held : Bool} {v : Value} {x : DataW H × List MemPlace} (h : DataW.trod enc Tryz.prog w base (fun _ => true) held fuel 53 [v] = some x) (hW : (x.1.weights Tryz.prog 53).all (· ≤ reachBytes) = true) : ∃ ks, SSl w v ks := by
  rcases open_strings Tryz.underlying53 Tryz.underlying9 Tryz.cells_str h with ⟨hcs, _⟩ | ⟨a, len, cap, ss, hcs, _, hl, hm, hmm, hx, hel, hsz⟩
  · injection hcs with hcs _
    subst hcs
    exact ⟨[], ⟨none, 0, rfl, ⟨by simp, fun _ => rfl⟩, .inl rfl⟩, by simp, by simp⟩
  · injection hcs with hcs _
    subst hcs
    simp only [if_true] at hmm
    have hlen : (ss.take len).length = len := by rw [List.length_take]; omega
    unfold maxLen at hm
    have hw1 : len ≤ 140737488351232 := by
      have h1 := weight_le hW (n := ((strs (H := H) (ss.take len)).length + (strs (H := H) (ss.drop len)).length) * Tryz.prog.bytesOf 9) (by rw [hx]; simp only [DataW.weights, Tryz.underlying53]; exact List.mem_cons_self ..)
      rw [Tryz.bytesStr] at h1
      have h2 : (strs (H := H) (ss.take len)).length = len := by simp [strs]; omega
      omega
    have hw2 : ∀ s ∈ ss.take len, s.size ≤ 140737488351232 := fun s hs => by
      refine weight_le hW ?_
      rw [hx]
      simp only [DataW.weights, Tryz.underlying53]
      refine List.mem_cons.2 (.inr (List.mem_append.2 (.inl (weights_all (d := .lit (.string s.data.toList)) (List.mem_map.2 ⟨s, hs, rfl⟩) _ ?_))))
      simp only [DataW.weights, List.mem_singleton]
      rfl
    refine ⟨ss.take len, ⟨some a, cap, by rw [hlen], ⟨by rw [hlen]; exact hl, fun h => by cases h⟩, ?_⟩, by rw [hlen]; exact hw1, hw2⟩
    by_cases hz : len = 0
    · exact .inl (by rw [hz]; rfl)
    · obtain ⟨b, off, spot⟩ := a
      have hspot : spot = none := by
        have := hel 0 (by omega)
        simpa [Addr.add] using World.cell?_spot this
      subst hspot
      refine .inr ⟨b, off, rfl, fun j s hj => ?_⟩
      have hjl : j < len := by
        have := (List.getElem?_eq_some_iff.1 hj).1
        omega
      have h1 := hel j (by omega)
      rw [addr_add] at h1
      rw [h1]
      rw [List.getElem?_take_of_lt hjl] at hj
      rw [List.getD_eq_getElem?_getD, hj]
      rfl
theorem vsl_of {w : World} {a : Addr} {len cap : Nat} (hl : len ≤ cap) (hm : len ≤ 140737488351232) (each : ∀ i, i < len → ∃ t cs', Tin w t cs' ∧ ∀ j u, cs'[j]? = some u → w.cell? ((a.add (i * 13)).add j) = some u) : ∃ is, VSl w (.slice (some a) len cap) is := by
  have hch : ∀ i, ∃ t : Tv, i < len → ∃ cs', Tin w t cs' ∧ ∀ j u, cs'[j]? = some u → w.cell? ((a.add (i * 13)).add j) = some u := fun i => by
    by_cases hi : i < len
    · obtain ⟨t, h⟩ := each i hi
      exact ⟨t, fun _ => h⟩
    · exact ⟨.mk 0 false false 0 0 ByteArray.empty [] ⟨0, 0, 0, []⟩ [] [], fun h => absurd h hi⟩
  obtain ⟨f, hf⟩ := Classical.axiomOfChoice hch
  have hln : ((List.range len).map f).length = len := by simp
  refine ⟨(List.range len).map f, ⟨some a, cap, by rw [hln], ⟨by rw [hln]; exact hl, fun h => by cases h⟩, ?_⟩, by rw [hln]; omega⟩
  by_cases hz : len = 0
  · exact .inl (by rw [hz]; rfl)
  · obtain ⟨b, off, spot⟩ := a
    have hspot : spot = none := by
      obtain ⟨t, cs', ht, hc⟩ := each 0 (by omega)
      obtain ⟨vy, vk, vi, he, _⟩ := ht.parts
      have := hc 0 (.int .i64 t.k) (by rw [he]; rfl)
      simpa [Addr.add] using World.cell?_spot this
    subst hspot
    refine .inr ⟨b, off, rfl, fun i t hi => ?_⟩
    have hil : i < len := by
      have := (List.getElem?_eq_some_iff.1 hi).1
      omega
    rw [List.getElem?_map, List.getElem?_range hil] at hi
    injection hi with hi
    subst hi
    obtain ⟨cs', h1, h2⟩ := hf i hil
    refine ⟨cs', h1, fun j u hu => ?_⟩
    have := h2 j u hu
    rw [addr_add, addr_add] at this
    exact this
theorem Tryz.cellsValue : Tryz.prog.cellsOf 65 = 13 := by kernel_rfl
theorem Tryz.cells_bool : Tryz.prog.cellsOf 4 = 1 := by kernel_rfl
theorem Tryz.cells_strs : Tryz.prog.cellsOf 53 = 1 := by kernel_rfl
theorem Tryz.cells_values : Tryz.prog.cellsOf 22 = 1 := by kernel_rfl
theorem Tryz.cells_bytes6 : Tryz.prog.cellsOf 23 = 1 := by kernel_rfl
set_option maxRecDepth 100000 in
/-- A value opened. -/
theorem value_open {H : Type} {enc : TypeId × Value → H} {w : World} {base : Nat} {held : Bool} : ∀ (fuel : Nat) (cs : List Value) (x : DataW H × List MemPlace), DataW.trod enc Tryz.prog w base (fun _ => true) held fuel 65 cs = some x → (x.1.weights Tryz.prog 65).all (· ≤ reachBytes) = true → ∃ t, Tin w t cs.toArray := by
  intro fuel
  induction fuel using Nat.strongRecOn with
  | _ fuel ih =>
    intro cs x h hW
    obtain ⟨xs, n, hfu, hx, hlen, hxl, hf⟩ := DataW.trod_struct Tryz.underlying65 h
    rw [Tryz.cellsValue] at hlen
    match cs, hlen, xs, hxl with
    | [c0, c1, c2, c3, c4, c5, c6, c7, c8, c9, c10, c11, c12], _, [y0, y1, y2, y3, y4, y5, y6, y7, y8, y9], _ =>
      have g0 : DataW.trod enc Tryz.prog w base (fun _ => true) held n 3 [c0] = some y0 := by simpa [Tryz.cells_int] using hf 0 _ rfl
      have g1 : DataW.trod enc Tryz.prog w base (fun _ => true) held n 4 [c1] = some y1 := by simpa [Tryz.cells_bool] using hf 1 _ rfl
      have g2 : DataW.trod enc Tryz.prog w base (fun _ => true) held n 4 [c2] = some y2 := by simpa [Tryz.cells_bool] using hf 2 _ rfl
      have g3 : DataW.trod enc Tryz.prog w base (fun _ => true) held n 61 [c3] = some y3 := by simpa [Tryz.cells_u64] using hf 3 _ rfl
      have g4 : DataW.trod enc Tryz.prog w base (fun _ => true) held n 61 [c4] = some y4 := by simpa [Tryz.cells_u64] using hf 4 _ rfl
      have g5 : DataW.trod enc Tryz.prog w base (fun _ => true) held n 9 [c5] = some y5 := by simpa [Tryz.cells_str] using hf 5 _ rfl
      have g6 : DataW.trod enc Tryz.prog w base (fun _ => true) held n 23 [c6] = some y6 := by simpa [Tryz.cells_bytes6] using hf 6 _ rfl
      have g7 : DataW.trod enc Tryz.prog w base (fun _ => true) held n 63 [c7, c8, c9, c10] = some y7 := by simpa [Tryz.cellsLink] using hf 7 _ rfl
      have g8 : DataW.trod enc Tryz.prog w base (fun _ => true) held n 53 [c11] = some y8 := by simpa [Tryz.cells_strs] using hf 8 _ rfl
      have g9 : DataW.trod enc Tryz.prog w base (fun _ => true) held n 22 [c12] = some y9 := by simpa [Tryz.cells_values] using hf 9 _ rfl
      have hWE : (DataW.weightsEach Tryz.prog [3, 4, 4, 61, 61, 9, 23, 63, 53, 22] [y0.1, y1.1, y2.1, y3.1, y4.1, y5.1, y6.1, y7.1, y8.1, y9.1]).all (· ≤ reachBytes) = true := by
        rw [hx] at hW
        simp only [DataW.weights, Tryz.underlying65] at hW
        exact hW
      obtain ⟨n0, f0, _, _⟩ := DataW.trod_int (fuel := n) (cs := [c0]) Tryz.underlying3 g0
      obtain ⟨b1, f1, _⟩ := DataW.trod_bool (fuel := n) (cs := [c1]) Tryz.underlying4 g1
      obtain ⟨b2, f2, _⟩ := DataW.trod_bool (fuel := n) (cs := [c2]) Tryz.underlying4 g2
      obtain ⟨n3, f3, _, w3⟩ := DataW.trod_int (fuel := n) (cs := [c3]) Tryz.underlying61 g3
      obtain ⟨n4, f4, _, w4⟩ := DataW.trod_int (fuel := n) (cs := [c4]) Tryz.underlying61 g4
      obtain ⟨s5, f5, hx5, hs5⟩ := DataW.trod_string (fuel := n) (cs := [c5]) Tryz.underlying9 g5
      obtain ⟨y, hy, hyl⟩ := bsl_open6 g6 (weight_each hWE (j := 6) rfl rfl)
      obtain ⟨z0, z1, z2, z3, k, hx7, _, e0, e1, e2, e3⟩ := trod_struct4 Tryz.underlying63 g7
      obtain ⟨m0, f7, _, _⟩ := DataW.trod_int (fuel := k) (cs := [c7]) Tryz.underlying3 (by simpa [Tryz.cells_int] using e0)
      obtain ⟨m1, f8, _, w8⟩ := DataW.trod_int (fuel := k) (cs := [c8]) Tryz.underlying61 (by simpa [Tryz.cells_u64] using e1)
      obtain ⟨m2, f9, _, w9⟩ := DataW.trod_int (fuel := k) (cs := [c9]) Tryz.underlying61 (by simpa [Tryz.cells_u64] using e2)
      obtain ⟨s10, f10, hx10, hs10⟩ := DataW.trod_string (fuel := k) (cs := [c10]) Tryz.underlying9 (by simpa [Tryz.cells_str] using e3)
      obtain ⟨ks, hk⟩ := ssl_open g8 (weight_each hWE (j := 8) rfl rfl)
      injection f0 with f0 _
      injection f1 with f1 _
      injection f2 with f2 _
      injection f3 with f3 _
      injection f4 with f4 _
      injection f5 with f5 _
      injection f7 with f7 _
      injection f8 with f8 _
      injection f9 with f9 _
      injection f10 with f10 _
      subst f0 f1 f2 f3 f4 f5 f7 f8 f9 f10
      have b3 := bounds_u64 w3
      have b4 := bounds_u64 w4
      have b8 := bounds_u64 w8
      have b9 := bounds_u64 w9
      have hs5 : s5.size ≤ 140737488351232 := weight_le (weight_each hWE (j := 5) (t := 9) rfl rfl) (by rw [hx5]; simp only [DataW.weights, List.mem_singleton]; rfl)
      have hW7 := weight_each hWE (j := 7) (t := 63) rfl rfl
      have hs10 : s10.size ≤ 140737488351232 := by
        rw [hx7] at hW7
        simp only [DataW.weights, Tryz.underlying63] at hW7
        exact weight_le (weight_each hW7 (j := 3) (t := 9) rfl rfl) (by rw [hx10]; simp only [DataW.weights, List.mem_singleton]; rfl)
      have hW9 := weight_each hWE (j := 9) (t := 22) rfl rfl
      have hv : ∃ is, VSl w c12 is := by
        rcases DataW.trod_slice Tryz.underlying22 g9 with ⟨hcs, _⟩ | ⟨a, len, cap, elems, rest, m, hfm, hcs, hx9, hb, hl, hm, hlen2, hel, _, _⟩
        · injection hcs with hcs _
          subst hcs
          exact ⟨[], ⟨none, 0, rfl, ⟨by simp, fun _ => rfl⟩, .inl rfl⟩, by simp⟩
        · injection hcs with hcs _
          subst hcs
          have hm2 : len ≤ 140737488351232 := by
            have h1 := weight_le hW9 (n := ((elems.map (·.1)).length + (rest.map (·.1)).length) * Tryz.prog.bytesOf 65) (by rw [hx9]; simp only [DataW.weights, Tryz.underlying22]; exact List.mem_cons_self ..)
            rw [Tryz.bytesValue, List.length_map] at h1
            omega
          have hwe : ∀ (i : Nat) (z : DataW H × List MemPlace), elems[i]? = some z → (z.1.weights Tryz.prog 65).all (· ≤ reachBytes) = true := fun i z hz => List.all_eq_true.2 fun n hn => by
            refine List.all_eq_true.1 hW9 n ?_
            rw [hx9]
            simp only [DataW.weights, Tryz.underlying22]
            exact List.mem_cons.2 (.inr (List.mem_append.2 (.inl (weights_all (List.mem_map.2 ⟨z, List.mem_of_getElem? hz, rfl⟩) n hn))))
          have each : ∀ i, i < len → ∃ t cs', Tin w t cs' ∧ ∀ j u, cs'[j]? = some u → w.cell? ((a.add (i * 13)).add j) = some u := by
            intro i hi
            have h1 := hel i hi
            rw [Tryz.cellsValue] at h1
            have h2 : ∃ z, elems[i]? = some z := ⟨elems[i]'(by omega), List.getElem?_eq_getElem (by omega)⟩
            obtain ⟨z, hz⟩ := h2
            rw [hz] at h1
            obtain ⟨cs', h3, h4⟩ := Option.bind_eq_some_iff.1 h1
            obtain ⟨t, ht⟩ := ih m (by omega) cs' z h4 (hwe i z hz)
            obtain ⟨_, hln, hcell⟩ := World.cells?_some h3
            refine ⟨t, cs'.toArray, ht, fun j u hu => ?_⟩
            rw [List.getElem?_toArray] at hu
            have hj : j < 13 := by
              have := (List.getElem?_eq_some_iff.1 hu).1
              omega
            rw [hcell j hj]
            exact hu
          exact vsl_of hl hm2 each
      obtain ⟨is, hi⟩ := hv
      refine ⟨.mk n0 b1 b2 n3.toNat n4.toNat s5 y ⟨m0, m1.toNat, m2.toNat, sl s10⟩ ks is, ?_⟩
      have q3 : ((n3.toNat : Nat) : Int) = n3 := by omega
      have q4 : ((n4.toNat : Nat) : Int) = n4 := by omega
      have q8 : ((m1.toNat : Nat) : Int) = m1 := by omega
      have q9 : ((m2.toNat : Nat) : Int) = m2 := by omega
      have hT := Tin.of (t := .mk n0 b1 b2 n3.toNat n4.toNat s5 y ⟨m0, m1.toNat, m2.toNat, sl s10⟩ ks is) (vy := c6) (vk := c11) (vi := c12) hy hk hi ⟨by show n3.toNat < _; omega, by show n4.toNat < _; omega, hs5, hyl, ⟨by show m1.toNat < _; omega, by show m2.toNat < _; omega, sl_byte s10, by show (sl s10).length ≤ _; rw [sl_len]; omega⟩, by show (sl s10).length ≤ _; rw [sl_len]; exact hs10⟩
      have e : vcs (.mk n0 b1 b2 n3.toNat n4.toNat s5 y ⟨m0, m1.toNat, m2.toNat, sl s10⟩ ks is) c6 c11 c12 = [.int .i64 n0, .bool b1, .bool b2, .int .u64 n3, .int .u64 n4, .string s5, c6, .int .i64 m0, .int .u64 m1, .int .u64 m2, .string s10, c11, c12].toArray := by
        simp only [vcs, Tv.k, Tv.f, Tv.g, Tv.n, Tv.b, Tv.s, Tv.l, nstr_sl, q3, q4, q8, q9]
      rw [e] at hT
      exact hT
/-- A slice of values opened. -/
theorem values_open {H : Type} {enc : TypeId × Value → H} {w : World} {base fuel : Nat} {held : Bool} {v : Value} {x : DataW H × List MemPlace} (h : DataW.trod enc Tryz.prog w base (fun _ => true) held fuel 22 [v] = some x) (hW : (x.1.weights Tryz.prog 22).all (· ≤ reachBytes) = true) : ∃ is, VSl w v is := by
  rcases DataW.trod_slice Tryz.underlying22 h with ⟨hcs, _⟩ | ⟨a, len, cap, elems, rest, m, hfm, hcs, hx9, hb, hl, hm, hlen2, hel, _, _⟩
  · injection hcs with hcs _
    subst hcs
    exact ⟨[], ⟨none, 0, rfl, ⟨by simp, fun _ => rfl⟩, .inl rfl⟩, by simp⟩
  · injection hcs with hcs _
    subst hcs
    have hm2 : len ≤ 140737488351232 := by
      have h1 := weight_le hW (n := ((elems.map (·.1)).length + (rest.map (·.1)).length) * Tryz.prog.bytesOf 65) (by rw [hx9]; simp only [DataW.weights, Tryz.underlying22]; exact List.mem_cons_self ..)
      rw [Tryz.bytesValue, List.length_map] at h1
      omega
    have hwe : ∀ (i : Nat) (z : DataW H × List MemPlace), elems[i]? = some z → (z.1.weights Tryz.prog 65).all (· ≤ reachBytes) = true := fun i z hz => List.all_eq_true.2 fun n hn => by
      refine List.all_eq_true.1 hW n ?_
      rw [hx9]
      simp only [DataW.weights, Tryz.underlying22]
      exact List.mem_cons.2 (.inr (List.mem_append.2 (.inl (weights_all (List.mem_map.2 ⟨z, List.mem_of_getElem? hz, rfl⟩) n hn))))
    refine vsl_of hl hm2 fun i hi => ?_
    have h1 := hel i hi
    rw [Tryz.cellsValue] at h1
    have h2 : ∃ z, elems[i]? = some z := ⟨elems[i]'(by omega), List.getElem?_eq_getElem (by omega)⟩
    obtain ⟨z, hz⟩ := h2
    rw [hz] at h1
    obtain ⟨cs', h3, h4⟩ := Option.bind_eq_some_iff.1 h1
    obtain ⟨t, ht⟩ := value_open m cs' z h4 (hwe i z hz)
    obtain ⟨_, hln, hcell⟩ := World.cells?_some h3
    refine ⟨t, cs'.toArray, ht, fun j u hu => ?_⟩
    rw [List.getElem?_toArray] at hu
    have hj : j < 13 := by
      have := (List.getElem?_eq_some_iff.1 hu).1
      omega
    rw [hcell j hj]
    exact hu
end
section
open Go.ChangeShapes Go.WideShapes Go.ChangeAt Go.RowKit Go.Deep Go.Joins Go
set_option maxRecDepth 100000 in
theorem trees7_open {H : Type} {enc : TypeId × Value → H} {w : World} {base b0 : Nat} {r : Reach} {held : Bool} {v : Value} {d : DataW H} {p : List MemPlace} (hv : Value.okWide Tryz.prog w r b0 25 v) (h : DataW.Trod enc Tryz.prog w base (fun _ => true) held 25 v d p) (hW : (d.weights Tryz.prog 25).all (· ≤ reachBytes) = true) :
    ∃ (vV vT : Value) (is : List Tv) (ts : List Nat), v = .agg #[vV, vT] ∧ VSl w vV is ∧ BSl w vT ts := by
  obtain ⟨c0, c1, y0, y1, m, rfl, hd, _, hy0, hy1⟩ := open_agg2 Tryz.underlying25 (by kernel_rfl) (show Tryz.prog.cellsOf 25 = 2 by kernel_rfl) hv h
  subst hd
  have hs2 : (DataW.weightsEach Tryz.prog [22, 23] [y0.1, y1.1]).all (· ≤ reachBytes) = true := by
    simp only [DataW.weights, Tryz.underlying25] at hW
    exact hW
  obtain ⟨is, his⟩ := values_open hy0 (weight_each hs2 (j := 0) rfl rfl)
  obtain ⟨ts, h1, _⟩ := bsl_open6 hy1 (weight_each hs2 (j := 1) rfl rfl)
  exact ⟨c0, c1, is, ts, rfl, his, h1⟩
end
section
open Go.RowKit Go
theorem acc_eq : (Rows.laid_unicode_utf8_acceptRanges : DataW Unit) = Lib.acceptData := by kernel_rfl
theorem fst_eq : Rows.laid_unicode_utf8_first = Lib.firstData := by kernel_rfl
theorem tabs_of_laid {W : World} (h : laidMet Tryz.prog [("unicode/utf8.acceptRanges", Rows.laid_unicode_utf8_acceptRanges), ("unicode/utf8.first", Rows.laid_unicode_utf8_first)] W) : Tabs W := by
  rw [acc_eq, fst_eq] at h
  exact utf8Tabs_of_readsT (U8Types.of196 Tryz.laysValid) ⟨by kernel_rfl, by kernel_rfl, by kernel_rfl, by kernel_rfl, by kernel_rfl, by kernel_rfl, by kernel_rfl⟩ (Lib.laidMet.reads h (.tail _ (.head _))) (Lib.laidMet.reads h (.head _))
/-- The settled world, the tables laid. -/
noncomputable def laidWorld6 (os : Os) : World :=
  let w0 := World.holding Tryz.prog os ⟨#[], #[], []⟩
  let put (h : Array Obj) (g : Nat) (cs : Array Value) : Array Obj := h.modify g fun
    | .cells _ t frozen => .cells cs t frozen
    | o => o
  let h1 := put w0.heap 2 (Lib.firstTab.map fun z => Value.int .u8 z).toArray
  let h2 := put h1 3 ((List.range 16).flatMap fun i => [Value.int .u8 (Lib.accLo i), Value.int .u8 (Lib.accHi i)]).toArray
  { w0 with heap := h2 }
theorem laid_met6 (os : Os) (args : Array Value) : laidMet Tryz.prog [("unicode/utf8.acceptRanges", Rows.laid_unicode_utf8_acceptRanges), ("unicode/utf8.first", Rows.laid_unicode_utf8_first)] ((laidWorld6 os).forCall (fun _ _ => 0) ⟨#[], args, []⟩).memory := by
  rw [acc_eq, fst_eq]
  exact (LaidIn.of_run (l := [("unicode/utf8.acceptRanges", Lib.acceptData), ("unicode/utf8.first", Lib.firstData)]) [3, 2] 8 (by kernel_rfl) (by kernel_rfl) (by kernel_rfl) (by kernel_rfl)).met
end
end Go.Proofs.YtjlknnpgngaooaaGreatDoor
