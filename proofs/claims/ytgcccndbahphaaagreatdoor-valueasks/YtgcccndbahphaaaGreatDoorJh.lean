import Derived.Test.YtgcccndbahphaaaGreatDoorJc
import Derived.Test.YtgcccndbahphaaaGreatDoorJd
import Derived.Test.YtgcccndbahphaaaGreatDoorJe
import Derived.Lib.Bytealg
import Derived.Test.YtgcccndbahphaaaGreatDoorSlay
import Derived.Test.YtgcccndbahphaaaGreatDoorJg
namespace Go.Proofs.YtgcccndbahphaaaGreatDoor
section
open Go.RowKit Go
/-- Keys' order. -/
def bfr (a b : List Nat) : Bool := if a.length = b.length then blt a b else decide (a.length < b.length)
theorem nat_ne {a b : Nat} : ((a : Int) != (b : Int)) = decide (a ≠ b) := by
  rw [Bool.eq_iff_iff]
  simp
  omega
set_option maxRecDepth 1000000 in
theorem rbefore_any (w : World) (s t : ByteArray) (hs : s.size ≤ 9223372036854775807) : Calls Tryz.prog 95 #[.string s, .string t] w fun e w' => e = .returned (.bool (bfr (sl s) (sl t))) ∧ Below w.heap.size w w' := by
  have HSL := hide (sl_len s)
  have HTL := hide (sl_len t)
  have HE : Hid (bfr (sl s) (sl t) = if s.size = t.size then blt (sl s) (sl t) else decide (s.size < t.size)) := by show _ = _; unfold bfr; rw [sl_len, sl_len]
  go_enter Tryz.func95, Tryz.ntmps95
  by_cases h : s.size = t.size
  · rw [if_pos h] at HE
    have g0 : ((s.size : Int) != (t.size : Int)) = false := by rw [nat_ne]; simp [h]
    have HH := hide h
    clear h
    go_wp2_with fail
    go_loopw [5] (fun ii wx => ∃ i : Nat, i ≤ s.size ∧ ii = .int .i64 (i : Nat) ∧ Hid (blt (sl s) (sl t) = blt ((sl s).drop i) ((sl t).drop i)) ∧ Hid (Below w.heap.size w wx)) (fun ii _ => s.size - (intOf ii).toNat)
    case atStart => exact ⟨0, by omega, rfl, by show _ = _; simp, Below.refl _ _⟩
    case round =>
      obtain ⟨i, hi, rfl, HI, HBw⟩ := hrel
      by_cases hlt : i < s.size
      · have g1 : (i : Int) < (s.size : Int) := by omega
        have hlt2 : i < t.size := by rw [← HH.out]; exact hlt
        have g2 : (i : Int) < (t.size : Int) := by omega
        have HD := hide (blt_drop (x := sl s) (y := sl t) (i := i) (by rw [HSL.out]; exact hlt) (by rw [HTL.out]; exact hlt2))
        rw [sl_at s i hlt, sl_at t i hlt2] at HD
        by_cases he : s[i].toNat = t[i].toNat
        · as_aux_lemma =>
          have g3 : ((s[i].toNat : Int) != (t[i].toNat : Int)) = false := by rw [nat_ne]; simp [he]
          rw [if_pos he] at HD
          have HI2 : Hid (blt (sl s) (sl t) = blt ((sl s).drop (i + 1)) ((sl t).drop (i + 1))) := HI.out.trans HD.out
          clear he HI HD
          go_wp2_with fail
          go_region
          go_wp2_with fail
          have HB2 : Hid (Below w.heap.size w wr.drew) := HBw.out.drew
          go_roundw
          case rel => exact ⟨i + 1, by omega, by go_num, HI2, HB2⟩
          case measure => simp [intOf]; omega
        · as_aux_lemma =>
          have g3 : ((s[i].toNat : Int) != (t[i].toNat : Int)) = true := by rw [nat_ne]; simp [he]
          rw [if_neg he] at HD
          have HI2 : Hid (bfr (sl s) (sl t) = decide (s[i].toNat < t[i].toNat)) := by
            show _ = _
            rw [HE.out, HI.out, HD.out]
          clear he HI HD
          go_wp2_with fail
          go_region
          go_wp2_with fail
          go_region
          go_wp2_with fail
          have HB2 : Hid (Below w.heap.size w wr.drew.drew) := HBw.out.drew.drew
          go_ret
          exact ⟨by rw [HI2.out]; rfl, HB2.out⟩
      · as_aux_lemma =>
        have g1 : ¬ (i : Int) < (s.size : Int) := by omega
        have HI2 : Hid (bfr (sl s) (sl t) = false) := by
          show _ = _
          rw [HE.out, HI.out]
          exact blt_end (.inl (by rw [HSL.out]; omega))
        go_wp2_with fail
        go_ret
        exact ⟨by rw [HI2.out]; rfl, HBw.out⟩
  · as_aux_lemma =>
    rw [if_neg h] at HE
    have g0 : ((s.size : Int) != (t.size : Int)) = true := by rw [nat_ne]; simp [h]
    clear h
    go_wp2_with fail
    go_ret
    exact ⟨by rw [HE.out]; rfl, Below.refl _ _⟩
end
section
open Go.RowKit Go
/-- How the one key stands to the other, by its sign. -/
def agn (s t : ByteArray) : Int := if s.size = t.size then Lib.compareBytes s.data.toList t.data.toList else if s.size < t.size then -1 else 1
theorem cmpB_blt : ∀ (x y : List UInt8), x.length = y.length → (Lib.compareBytes x y < 0 ↔ blt (x.map UInt8.toNat) (y.map UInt8.toNat) = true)
  | [], [], _ => by simp [Lib.compareBytes, blt]
  | [], _ :: _, h => by simp at h
  | _ :: _, [], h => by simp at h
  | a :: x, b :: y, h => by
    have ih := cmpB_blt x y (by simpa using h)
    simp only [Lib.compareBytes, List.map_cons, blt]
    by_cases h1 : a < b
    · have h2 : a.toNat < b.toNat := h1
      rw [if_pos h1, if_neg (by omega)]
      simp [h2]
    · rw [if_neg h1]
      by_cases h2 : b < a
      · have h3 : b.toNat < a.toNat := h2
        rw [if_pos h2, if_neg (by omega)]
        simp
        omega
      · have h3 : a.toNat = b.toNat := by
          have e1 : ¬ a.toNat < b.toNat := h1
          have e2 : ¬ b.toNat < a.toNat := h2
          omega
        rw [if_neg h2, if_pos h3]
        exact ih
theorem agn_bfr (s t : ByteArray) : agn s t < 0 ↔ bfr (sl s) (sl t) = true := by
  unfold agn bfr
  rw [sl_len, sl_len]
  by_cases h : s.size = t.size
  · rw [if_pos h, if_pos h]
    exact cmpB_blt _ _ (by rw [Array.length_toList, Array.length_toList]; exact h)
  · rw [if_neg h, if_neg h]
    by_cases h2 : s.size < t.size <;> simp [h2]
set_option maxRecDepth 1000000 in
theorem cmpString_any (a b : ByteArray) (w : World) : Calls Tryz.prog 131 #[.string a, .string b] w fun e w' => e = .returned (.int .i64 (Lib.compareBytes a.data.toList b.data.toList)) ∧ w' = w := by
  go_enter Tryz.func131, Tryz.ntmps131
  go_wp2
  rw [run_callFunc_extern Tryz.func152 (by kernel_rfl) (by kernel_rfl) (by kernel_rfl) (e := Extern.BytealgCompare.compare) (by kernel_rfl), Lib.run_compareString]
  simp only [Result.andThen]
  rw [Oper.upon_value]
  go_wp2
  go_ret
  exact ⟨rfl, rfl⟩
set_option maxRecDepth 1000000 in
theorem strCompare_any (a b : ByteArray) (w : World) : Calls Tryz.prog 115 #[.string a, .string b] w fun e w' => e = .returned (.int .i64 (Lib.compareBytes a.data.toList b.data.toList)) ∧ w' = w := by
  go_enter Tryz.func115, Tryz.ntmps115
  go_wp2_with (go_at_call 131; refine (cmpString_any _ _ _).mono ?_; rintro e w' ⟨rfl, rfl⟩)
  go_ret
  exact ⟨rfl, rfl⟩
set_option maxRecDepth 1000000 in
theorem isNaN_any (x : Int) (w : World) : Calls Tryz.prog 130 #[.int .i64 x] w fun e w' => e = .returned (.bool false) ∧ w' = w := by
  have g0 : (x != x) = false := by simp
  go_enter Tryz.func130, Tryz.ntmps130
  go_wp2_with fail
  go_ret
  exact ⟨rfl, rfl⟩
set_option maxRecDepth 1000000 in
theorem cmpInt_any (x y : Int) (w : World) (h : x ≠ y) : Calls Tryz.prog 114 #[.int .i64 x, .int .i64 y] w fun e w' => e = .returned (.int .i64 (if x < y then -1 else 1)) ∧ w' = w := by
  go_enter Tryz.func114, Tryz.ntmps114
  by_cases hlt : x < y
  · rw [if_pos hlt]
    go_wp2_with (go_at_call 130; refine (isNaN_any _ _).mono ?_; rintro e w' ⟨rfl, rfl⟩)
    go_ret
    exact ⟨rfl, rfl⟩
  · have h2 : y < x := by omega
    rw [if_neg hlt]
    go_wp2_with (go_at_call 130; refine (isNaN_any _ _).mono ?_; rintro e w' ⟨rfl, rfl⟩)
    go_ret
    exact ⟨rfl, rfl⟩
set_option maxRecDepth 1000000 in
theorem against_any (s t : ByteArray) (w : World) : Calls Tryz.prog 88 #[.string s, .string t] w fun e w' => e = .returned (.int .i64 (agn s t)) ∧ w' = w := by
  unfold agn
  go_enter Tryz.func88, Tryz.ntmps88
  by_cases h : s.size = t.size
  · rw [if_pos h]
    have g0 : ((s.size : Int) != (t.size : Int)) = false := by rw [nat_ne]; simp [h]
    clear h
    go_wp2_with (go_at_call 115; refine (strCompare_any _ _ _).mono ?_; rintro e w' ⟨rfl, rfl⟩)
    go_ret
    exact ⟨rfl, rfl⟩
  · rw [if_neg h]
    have g0 : ((s.size : Int) != (t.size : Int)) = true := by rw [nat_ne]; simp [h]
    have HC := hide (cmpInt_any (s.size : Int) (t.size : Int) w (by omega))
    have HE : Hid ((if (s.size : Int) < (t.size : Int) then (-1 : Int) else 1) = if s.size < t.size then -1 else 1) := by
      show _ = _
      by_cases h2 : s.size < t.size
      · rw [if_pos h2, if_pos (by omega)]
      · rw [if_neg h2, if_neg (by omega)]
    rw [HE.out] at HC
    clear h HE
    generalize (if s.size < t.size then (-1 : Int) else 1) = R at *
    go_wp2_with (go_at_call 114; refine HC.out.mono ?_; rintro e w' ⟨rfl, rfl⟩)
    go_ret
    exact ⟨rfl, rfl⟩
set_option maxRecDepth 1000000 in
theorem before_any (s t : ByteArray) (w : World) : Calls Tryz.prog 40 #[.string s, .string t] w fun e w' => e = .returned (.bool (bfr (sl s) (sl t))) ∧ w' = w := by
  have HA := hide (against_any s t w)
  have HE : Hid (decide (agn s t < 0) = bfr (sl s) (sl t)) := by
    show _ = _
    rw [Bool.eq_iff_iff, decide_eq_true_iff]
    exact agn_bfr s t
  go_enter Tryz.func40, Tryz.ntmps40
  go_wp2_with (go_at_call 88; refine HA.out.mono ?_; rintro e w' ⟨rfl, rfl⟩)
  go_ret
  exact ⟨by rw [← HE.out]; rfl, rfl⟩
end
section
open Go.RowKit Go
/-- Numbers as the cells of a []int. -/
def ivs (l : List Nat) : List Value := l.map fun n : Nat => .int .i64 (n : Int)
theorem ivs_get {l : List Nat} {j : Nat} (h : j < l.length) : (ivs l)[j]? = some (.int .i64 ((l.getD j 0 : Nat) : Int)) := by simp [ivs, List.getD, h]
theorem ivs_snoc (l : List Nat) (n : Nat) : ivs (l ++ [n]) = ivs l ++ [.int .i64 (n : Int)] := by simp [ivs]
theorem append_nat {ops : Array Oper} {rest : List Oper} {o : Oper} {a : Act} {Q : Exit → Act → World → Prop} {w : World} (hgd : o.guard = none) (s x : Operand)
    (ho : o.op = .call { callee := .builtin .append, args := #[s, x], argTypes := #[29, 29] }) (B : Nat) (v : Value) (ds : List Nat) (hs : a.eval s = v) (hown : w.ownsRow B 3 1 v ds.length (ivs ds))
    (y : Nat) (hx : a.eval x = .slice (some ⟨w.heap.size, 0, none⟩) 1 1) (hlen : ds.length < 1099511627776) (hbase : B ≤ w.heap.size)
    (h : ∀ v' w', w'.ownsRow B 3 1 v' (ds ++ [y]).length (ivs (ds ++ [y])) → Below B w w' → wpList Tryz.prog ops Q rest (a.put o.dst v') w') : wpList Tryz.prog ops Q (o :: rest) a (w.alloc (.cells #[.int .i64 (y : Int)] 3)) := by
  refine append_int hgd s x ho B v ds.length (ivs ds) hs hown (y : Int) _ rfl hx hlen hbase fun v' w' h1 h2 _ => h v' w' (by rw [ivs_snoc, List.length_append]; exact h1) ?_
  exact ((Below.refl B w).alloc hbase _).grown h2 (by simp; omega) (fun g hg => (hown.lt g hg).1)
end
section
open Go.RowKit Go
/-- A slice of numbers, plainly. -/
structure ISl (w : World) (v : Value) (ps : List Nat) : Prop where
  form : ∃ a cap, v = .slice a ps.length cap ∧ (ps.length ≤ cap ∧ (a = none → cap = 0)) ∧ (ps = [] ∨ ∃ b off, a = some ⟨b, off, none⟩ ∧ ∀ j p, ps[j]? = some p → w.cell? ⟨b, off + j, none⟩ = some (.int .i64 (p : Nat)))
  max : ps.length ≤ 140737488351232
theorem ISl.move {w w' : World} {v : Value} {ps : List Nat} (h : ISl w v ps) (hm : ∀ p u, w.cell? p = some u → w'.cell? p = some u) : ISl w' v ps := by
  obtain ⟨⟨a, c, hv, hn, hc⟩, h1⟩ := h
  refine ⟨⟨a, c, hv, hn, ?_⟩, h1⟩
  rcases hc with hc | ⟨b, off, ha, hc⟩
  · exact .inl hc
  · exact .inr ⟨b, off, ha, fun j s hj => hm _ _ (hc j s hj)⟩
theorem ISl.own {w : World} {base n : Nat} {v : Value} {ps : List Nat} (h : w.ownsRow base 3 1 v n (ivs ps)) (hn : n = ps.length) (hm : ps.length ≤ 140737488351232) : ISl w v ps := by
  subst hn
  rcases id h.2 with ⟨hv, he⟩ | ⟨g, cap, cur, hv, _, _, h1, _⟩
  · subst hv
    have e : ps = [] := List.length_eq_zero_iff.1 he
    subst e
    exact ⟨⟨none, 0, rfl, ⟨by simp, fun _ => rfl⟩, .inl rfl⟩, hm⟩
  · subst hv
    refine ⟨⟨_, cap, rfl, ⟨by omega, fun h => by cases h⟩, .inr ⟨g, 0, rfl, fun j s hj => ?_⟩⟩, hm⟩
    rw [Nat.zero_add]
    have hjl := (List.getElem?_eq_some_iff.1 hj).1
    have hg := (own_cell h (ivs_get hjl)).1
    rw [hg]
    simp [List.getD, hj]
/-- The items at these places. -/
def pickS (ks : List ByteArray) (ps : List Nat) : List ByteArray := ps.map fun p => ks.getD p ⟨#[]⟩
theorem pickS_len (ks : List ByteArray) (ps : List Nat) : (pickS ks ps).length = ps.length := by simp [pickS]
theorem pickS_snoc {ks : List ByteArray} {ps : List Nat} {i p : Nat} {s : ByteArray} (hp : ps[i]? = some p) (hs : ks[p]? = some s) : pickS ks (ps.take (i + 1)) = pickS ks (ps.take i) ++ [s] := by
  have hi := (List.getElem?_eq_some_iff.1 hp).1
  rw [List.take_succ_eq_append_getElem hi]
  rw [List.getElem?_eq_getElem hi] at hp
  injection hp with hp
  simp [pickS, hp, List.getD, hs]
def pickL (L : List (Array Value)) (ps : List Nat) : List (Array Value) := ps.map fun p => L.getD p #[]
theorem pickL_len (L : List (Array Value)) (ps : List Nat) : (pickL L ps).length = ps.length := by simp [pickL]
theorem pickL_snoc {L : List (Array Value)} {ps : List Nat} {i p : Nat} {c : Array Value} (hp : ps[i]? = some p) (hs : L[p]? = some c) : pickL L (ps.take (i + 1)) = pickL L (ps.take i) ++ [c] := by
  have hi := (List.getElem?_eq_some_iff.1 hp).1
  rw [List.take_succ_eq_append_getElem hi]
  rw [List.getElem?_eq_getElem hi] at hp
  injection hp with hp
  simp [pickL, hp, List.getD, hs]
set_option maxRecDepth 1000000 in
set_option maxHeartbeats 1000000 in
theorem pickedS_any (w : World) (v vp : Value) (ks : List ByteArray) (ps : List Nat) (hv : SSl w v ks) (hp : ISl w vp ps) (hps : ∀ p ∈ ps, p < ks.length) (hlen : ps.length ≤ 6000000) :
    Calls Tryz.prog 45 #[v, vp] w fun e w' => ∃ v', e = .returned v' ∧ w'.ownsRow w.heap.size 9 1 v' ps.length (sv (pickS ks ps)) ∧ Below w.heap.size w w' := by
  have HSZ := hide hv.size
  have HPS := hide hps
  obtain ⟨⟨a, cap, rfl, _, hc⟩, _, _⟩ := hv
  obtain ⟨⟨ap, capp, rfl, _, hcp⟩, _⟩ := hp
  have HC := hide hc
  have HCP := hide hcp
  clear hc hcp hps
  generalize hB : w.heap.size = B at *
  have HBe := hide hB
  clear hB
  go_enter Tryz.func45, Tryz.ntmps45
  go_wp2_with fail
  go_loopw [5, 10] (fun vv ii wx => ∃ i : Nat, i ≤ ps.length ∧ ii = .int .i64 (i : Nat) ∧ Hid (wx.ownsRow B 9 1 vv i (sv (pickS ks (ps.take i)))) ∧ Hid (Below B w wx)) (fun _ ii _ => ps.length - (intOf ii).toNat)
  case atStart => exact ⟨0, by omega, rfl, World.ownsRow_nil _ _ _ _, Below.refl _ _⟩
  case round =>
    obtain ⟨i, hi, rfl, HO, HBw⟩ := hrel
    by_cases hlt : i < ps.length
    · as_aux_lemma =>
      have g1 : (i : Int) < (ps.length : Int) := by omega
      obtain ⟨p, hpi⟩ : ∃ p, ps[i]? = some p := ⟨ps[i], List.getElem?_eq_getElem hlt⟩
      have hpl := HPS.out p (List.mem_of_getElem? hpi)
      have g2 : (p : Int) < (ks.length : Int) := by omega
      obtain ⟨s, hs⟩ : ∃ s, ks[p]? = some s := ⟨ks[p], List.getElem?_eq_getElem hpl⟩
      obtain ⟨b, off, rfl, hcc⟩ := HCP.out.resolve_left (fun h => by rw [h] at hlt; simp at hlt)
      obtain ⟨b2, off2, rfl, hcd⟩ := HC.out.resolve_left (fun h => by rw [h] at hpl; simp at hpl)
      have hkb : ∀ p x, w.cell? p = some x → wr.cell? p = some x := keep_below (by have e := HBw.out; rw [← HBe.out] at e; exact e)
      have c1 := hkb _ _ (hcc i p hpi)
      have c2 := hkb _ _ (hcd p s hs)
      have HS1 := hide (HSZ.out s (List.mem_of_getElem? hs))
      have HPK := hide (pickS_snoc hpi hs)
      obtain ⟨ax, cx, hvx⟩ : ∃ ax cx, u5 = .slice ax i cx := by
        rcases HO.out.2 with ⟨e, h0⟩ | ⟨g, c, cur, e, _⟩
        · exact ⟨none, 0, by rw [e, h0]⟩
        · exact ⟨_, c, e⟩
      subst hvx
      clear hpi hs hcc hcd hkb HC HCP
      go_wp2_with (at_builtin; refine append_ssl rfl _ _ rfl B _ i (pickS ks (ps.take i)) rfl (HO.out.alloc _) _ [s] rfl (one_ssl _ s HS1.out) ?b1 ?b2 ?_)
      case b1 => simp; omega
      case b2 => have := HBw.out.size; have := HBe.out; simp; omega
      intro v2 w2 ho2 hg2
      have hb2 : Below B w w2 := (HBw.out.alloc (by have := HBw.out.size; have := HBe.out; omega) _).grown hg2 (by have := HBw.out.size; have := HBe.out; simp; omega) (fun q hq => (HO.out.lt q hq).1)
      have HO2 : Hid (w2.ownsRow B 9 1 v2 (i + 1) (sv (pickS ks (ps.take (i + 1))))) := by show World.ownsRow _ _ _ _ _ _ _; rw [HPK.out]; exact ho2
      have HB2 := hide hb2
      clear hg2 ho2 hb2 c1 c2
      go_wp2_with fail
      go_roundw
      case rel => exact ⟨i + 1, by omega, by go_num, HO2, HB2⟩
      case measure => simp [intOf]; omega
    · as_aux_lemma =>
      have g1 : ¬ (i : Int) < (ps.length : Int) := by omega
      have e1 : i = ps.length := by omega
      subst e1
      have HO2 := hide HO.out
      rw [List.take_length] at HO2
      go_wp2_with fail
      go_ret
      exact ⟨_, rfl, HO2.out, HBw.out⟩
set_option maxRecDepth 1000000 in
set_option maxHeartbeats 1000000 in
theorem pickedV_any (w : World) (v vp : Value) (L : List (Array Value)) (ps : List Nat) (B0 : Nat) (hv : w.ownsRow B0 55 13 v L.length (vfl L)) (h1 : ∀ c ∈ L, one13 c) (hp : ISl w vp ps) (hps : ∀ p ∈ ps, p < L.length) (hlen : ps.length ≤ 6000000) :
    Calls Tryz.prog 46 #[v, vp] w fun e w' => ∃ v', e = .returned v' ∧ w'.ownsRow w.heap.size 55 13 v' ps.length (vfl (pickL L ps)) ∧ Below w.heap.size w w' := by
  have HPS := hide hps
  have H13 : Hid (∀ c ∈ L, c.size = 13) := fun c hc => (h1 c hc).1
  have HV := hide hv
  have H1 := hide h1
  obtain ⟨a, cap, rfl⟩ : ∃ a c, v = .slice a L.length c := by
    rcases hv.2 with ⟨e, h0⟩ | ⟨g, c, cur, e, _⟩
    · exact ⟨none, 0, by rw [e, h0]⟩
    · exact ⟨_, c, e⟩
  obtain ⟨⟨ap, capp, rfl, _, hcp⟩, _⟩ := hp
  have HCP := hide hcp
  have hmax : L.length ≤ 9223372036854775807 := by
    rcases hv.2 with ⟨e, h0⟩ | ⟨g, c, cur, e, _, _, h2, h3, _⟩
    · omega
    · unfold maxLen at h3; omega
  clear hcp hps h1 hv
  generalize hB : w.heap.size = B at *
  have HBe := hide hB
  clear hB
  go_enter Tryz.func46, Tryz.ntmps46
  go_wp2_with fail
  go_loopw [5, 10] (fun vv ii wx => ∃ i : Nat, i ≤ ps.length ∧ ii = .int .i64 (i : Nat) ∧ Hid (wx.ownsRow B 55 13 vv i (vfl (pickL L (ps.take i)))) ∧ Hid (Below B w wx)) (fun _ ii _ => ps.length - (intOf ii).toNat)
  case atStart => exact ⟨0, by omega, rfl, World.ownsRow_nil _ _ _ _, Below.refl _ _⟩
  case round =>
    obtain ⟨i, hi, rfl, HO, HBw⟩ := hrel
    by_cases hlt : i < ps.length
    · as_aux_lemma =>
      have g1 : (i : Int) < (ps.length : Int) := by omega
      obtain ⟨p, hpi⟩ : ∃ p, ps[i]? = some p := ⟨ps[i], List.getElem?_eq_getElem hlt⟩
      have hpl := HPS.out p (List.mem_of_getElem? hpi)
      have g2 : (p : Int) < (L.length : Int) := by omega
      obtain ⟨c, hc⟩ : ∃ c, L[p]? = some c := ⟨L[p], List.getElem?_eq_getElem hpl⟩
      obtain ⟨b, off, rfl, hcc⟩ := HCP.out.resolve_left (fun h => by rw [h] at hlt; simp at hlt)
      obtain ⟨g, rfl, hgc⟩ : ∃ g, a = some ⟨g, 0, none⟩ ∧ ∀ j x, c[j]? = some x → w.cell? ⟨g, p * 13 + j, none⟩ = some x := by
        have hV := HV.out
        rcases id hV.2 with ⟨e, h0⟩ | ⟨g, c', cur, e, _⟩
        · omega
        · injection e with e1 e2 e3
          subst e1
          exact ⟨g, rfl, fun j x hx => own_val hV H13.out hc j x hx⟩
      have hkb : ∀ p x, w.cell? p = some x → wr.cell? p = some x := keep_below (by have e := HBw.out; rw [← HBe.out] at e; exact e)
      have c1 := hkb _ _ (hcc i p hpi)
      have HCC : Hid (∀ j x, c[j]? = some x → wr.cell? ⟨g, p * 13 + j, none⟩ = some x) := fun j x hx => hkb _ _ (hgc j x hx)
      have HC1 := hide (H1.out c (List.mem_of_getElem? hc))
      have HPK := hide (pickL_snoc hpi hc)
      obtain ⟨ax, cx, hvx⟩ : ∃ ax cx, u5 = .slice ax i cx := by
        rcases HO.out.2 with ⟨e, h0⟩ | ⟨g, c, cur, e, _⟩
        · exact ⟨none, 0, by rw [e, h0]⟩
        · exact ⟨_, c, e⟩
      subst hvx
      have HG6 : Hid ((wr.alloc (.cells c 55)).heap[wr.heap.size]? = some (.cells c 55 (0, 0))) := heap_alloc_new wr _
      clear hpi hc hcc hgc hkb HCP HV
      go_wp2_with (first
        | (refine wpList_valAt rfl rfl g (p * 13) c rfl HC1.out.1 HCC.out ?_)
        | (refine wpList_val1 rfl rfl c HC1.out.1 rfl ?_)
        | (at_builtin; refine append_val rfl _ _ rfl B _ i (vfl (pickL L (ps.take i))) rfl (HO.out.alloc _) wr.heap.size c HC1.out rfl HG6.out ?b1 ?b2 ?_))
      case b1 => omega
      case b2 => have := HBw.out.size; have := HBe.out; simp; omega
      intro v2 w2 ho2 hg2 _
      have hb2 : Below B w w2 := (HBw.out.alloc (by have := HBw.out.size; have := HBe.out; omega) _).grown hg2 (by have := HBw.out.size; have := HBe.out; simp; omega) (fun q hq => (HO.out.lt q hq).1)
      have HO2 : Hid (w2.ownsRow B 55 13 v2 (i + 1) (vfl (pickL L (ps.take (i + 1))))) := by
        show World.ownsRow _ _ _ _ _ _ _
        rw [HPK.out, vfl_app]
        have e : vfl [c] = c.toList := by simp [vfl]
        rw [e]
        exact ho2
      have HB2 := hide hb2
      clear hg2 ho2 hb2 c1 HCC
      go_wp2_with fail
      go_roundw
      case rel => exact ⟨i + 1, by omega, by go_num, HO2, HB2⟩
      case measure => simp [intOf]; omega
    · as_aux_lemma =>
      have g1 : ¬ (i : Int) < (ps.length : Int) := by omega
      have e1 : i = ps.length := by omega
      subst e1
      have HO2 := hide HO.out
      rw [List.take_length] at HO2
      go_wp2_with fail
      go_ret
      exact ⟨_, rfl, HO2.out, HBw.out⟩
end
section
open Go.RowKit Go
theorem blt_tr : ∀ (x y z : List Nat), x.length = y.length → y.length = z.length → blt x y = true → blt y z = true → blt x z = true
  | [], _, _, _, _, h, _ => by simp [blt] at h
  | _ :: _, [], _, h, _, _, _ => by simp at h
  | _ :: _, _ :: _, [], _, h, _, _ => by simp at h
  | a :: x, b :: y, c :: z, h1, h2, h3, h4 => by
    have ih := blt_tr x y z (by simpa using h1) (by simpa using h2)
    simp only [blt] at *
    by_cases e1 : a = b
    · by_cases e2 : b = c
      · rw [if_pos e1] at h3
        rw [if_pos e2] at h4
        rw [if_pos (by omega)]
        exact ih h3 h4
      · rw [if_neg e2] at h4
        rw [if_neg (by omega)]
        simp at *
        omega
    · rw [if_neg e1] at h3
      by_cases e2 : b = c
      · rw [if_neg (by omega)]
        simp at *
        omega
      · rw [if_neg e2] at h4
        simp at h3 h4
        rw [if_neg (by omega)]
        simp
        omega
theorem blt_nt : ∀ (x y z : List Nat), x.length = y.length → y.length = z.length → blt x y = false → blt y z = false → blt x z = false
  | [], _, _, _, _, _, _ => by simp [blt]
  | _ :: _, [], _, h, _, _, _ => by simp at h
  | _ :: _, _ :: _, [], _, h, _, _ => by simp at h
  | a :: x, b :: y, c :: z, h1, h2, h3, h4 => by
    have ih := blt_nt x y z (by simpa using h1) (by simpa using h2)
    simp only [blt] at *
    by_cases e1 : a = b
    · by_cases e2 : b = c
      · rw [if_pos e1] at h3
        rw [if_pos e2] at h4
        rw [if_pos (by omega)]
        exact ih h3 h4
      · rw [if_neg e2] at h4
        rw [if_neg (by omega)]
        simp at *
        omega
    · rw [if_neg e1] at h3
      by_cases e2 : b = c
      · rw [if_neg (by omega)]
        simp at *
        omega
      · rw [if_neg e2] at h4
        simp at h3 h4
        rw [if_neg (by omega)]
        simp
        omega
theorem bfr_self (x : List Nat) : bfr x x = false := by
  unfold bfr
  rw [if_pos rfl]
  exact blt_self x
theorem bfr_tr (x y z : List Nat) (h1 : bfr x y = true) (h2 : bfr y z = true) : bfr x z = true := by
  unfold bfr at *
  by_cases e1 : x.length = y.length
  · rw [if_pos e1] at h1
    by_cases e2 : y.length = z.length
    · rw [if_pos e2] at h2
      rw [if_pos (by omega)]
      exact blt_tr x y z e1 e2 h1 h2
    · rw [if_neg e2] at h2
      rw [if_neg (by omega)]
      simp at *
      omega
  · rw [if_neg e1] at h1
    by_cases e2 : y.length = z.length
    · rw [if_neg (by omega)]
      simp at *
      omega
    · rw [if_neg e2] at h2
      simp at h1 h2
      rw [if_neg (by omega)]
      simp
      omega
theorem bfr_nt (x y z : List Nat) (h1 : bfr x y = false) (h2 : bfr y z = false) : bfr x z = false := by
  unfold bfr at *
  by_cases e1 : x.length = y.length
  · rw [if_pos e1] at h1
    by_cases e2 : y.length = z.length
    · rw [if_pos e2] at h2
      rw [if_pos (by omega)]
      exact blt_nt x y z e1 e2 h1 h2
    · rw [if_neg e2] at h2
      rw [if_neg (by omega)]
      simp at *
      omega
  · rw [if_neg e1] at h1
    by_cases e2 : y.length = z.length
    · rw [if_neg (by omega)]
      simp at *
      omega
    · rw [if_neg e2] at h2
      simp at h1 h2
      rw [if_neg (by omega)]
      simp
      omega
end
section
open Go.RowKit Go
set_option maxRecDepth 1000000 in
set_option maxHeartbeats 1000000 in
/-- The closure by which order compares two places. -/
theorem clo_any (w : World) (B b off n cap i j : Nat) (s t : ByteArray) (c8 : w.cell? ⟨B, 11, none⟩ = some (.slice (some ⟨b, off, none⟩) n cap)) (hi : i < n) (hj : j < n) (ci : w.cell? ⟨b, off + i, none⟩ = some (.string s)) (cj : w.cell? ⟨b, off + j, none⟩ = some (.string t)) :
    Calls Tryz.prog 91 #[.int .i64 (i : Nat), .int .i64 (j : Nat), .pointer (some ⟨B, 0, none⟩)] w fun e w' => e = .returned (.int .i64 (agn s t)) ∧ ∃ q, w' = w.drewN q := by
  have hi2 : (i : Int) < (n : Int) := by omega
  have hj2 : (j : Int) < (n : Int) := by omega
  have HA := fun W => against_any s t W
  generalize agn s t = R at *
  go_enter Tryz.func91, Tryz.ntmps91
  go_wp2_with fail
  go_quiet (first | (go_at_call 88; exact Calls.quiet_of_same (HA _)))
  go_wp2_with fail
  go_ret
  exact ⟨rfl, _, rfl⟩
/-! Keys' order is a strict order. -/
/-- How the keys at two places stand. -/
def kcf (ks : List ByteArray) (n : Nat) (x y : Fin n) : Int := agn (ks.getD x.val ⟨#[]⟩) (ks.getD y.val ⟨#[]⟩)
theorem kcf_lt (ks : List ByteArray) (n : Nat) (x y : Fin n) : Go.Proofs.ltOf (kcf ks n) x y = bfr (sl (ks.getD x.val ⟨#[]⟩)) (sl (ks.getD y.val ⟨#[]⟩)) := by
  unfold Go.Proofs.ltOf kcf
  rw [Bool.eq_iff_iff, decide_eq_true_iff]
  exact agn_bfr _ _
theorem kcf_swo (ks : List ByteArray) (n : Nat) : Go.Sort.SWO (Go.Proofs.ltOf (kcf ks n)) where
  irrefl x := by rw [kcf_lt]; exact bfr_self _
  trans x y z h1 h2 := by rw [kcf_lt] at *; exact bfr_tr _ _ _ h1 h2
  ntrans x y z h1 h2 := by rw [kcf_lt] at *; exact bfr_nt _ _ _ h1 h2
end
section
open Go.RowKit Go
/-- Places in keys' order. -/
structure Srp (ks : List ByteArray) (n : Nat) (ps : List Nat) : Prop where
  p : ps.Perm (List.range n)
  s : ∀ (i j p q : Nat), i < j → ps[i]? = some p → ps[j]? = some q → bfr (sl (ks.getD q ⟨#[]⟩)) (sl (ks.getD p ⟨#[]⟩)) = false
theorem Srp.len {ks : List ByteArray} {n : Nat} {ps : List Nat} (h : Srp ks n ps) : ps.length = n := by rw [h.p.length_eq, List.length_range]
theorem Srp.lt {ks : List ByteArray} {n : Nat} {ps : List Nat} (h : Srp ks n ps) : ∀ p ∈ ps, p < n := fun p hp => by simpa using h.p.mem_iff.1 hp
def finV (n : Nat) (i : Fin n) : Value := .int .i64 ((i.val : Nat) : Int)
theorem sortW_block {α : Type} [Inhabited α] (enc : α → Value) (w : World) (g m : Nat) (d : Array α) (os : Array Obj) (cur : Array Value) (e : TypeId) (hg : w.heap[g]? = some (.cells cur e (0, 0))) : (Go.Proofs.sortWorld enc w g 0 m d os).heap[g]? = some (.cells (Go.Sort.putCells enc 0 d cur) e (0, 0)) := by
  unfold Go.Proofs.sortWorld
  rw [Go.Sort.heap_grow_old _ _ (by rw [Go.Sort.size_putRow]; exact blk_lt hg)]
  simp [Go.Sort.putRow, Go.Sort.mapBlock, Array.getElem?_modify, hg, Go.Sort.onCells, Go.Sort.ahead]
theorem sortW_kp {α : Type} [Inhabited α] (enc : α → Value) (w : World) (g m : Nat) (d : Array α) (os : Array Obj) : Kp (fun q => q = g) w (Go.Proofs.sortWorld enc w g 0 m d os) := by
  refine ⟨rfl, rfl, rfl, ?_, fun k hk hs => ?_⟩
  · unfold Go.Proofs.sortWorld
    rw [Go.Sort.size_grow, Go.Sort.size_putRow]
    show w.heap.size ≤ w.heap.size + os.size
    omega
  · unfold Go.Proofs.sortWorld
    rw [Go.Sort.heap_grow_old _ _ (by rw [Go.Sort.size_putRow]; exact hk)]
    have hs' : ¬ g = k := fun e => hs e.symm
    simp [Go.Sort.putRow, Go.Sort.mapBlock, Array.getElem?_modify, Go.Sort.ahead, hs']
theorem put_ivs (n : Nat) (d : Array (Fin n)) (cur : Array Value) [Inhabited (Fin n)] (hd : d.size = n) (hc : cur.size = n) : Go.Sort.putCells (finV n) 0 d cur = (ivs (d.toList.map Fin.val)).toArray := by
  apply Array.ext_getElem?
  intro k
  simp only [Go.Sort.putCells, Array.getElem?_mapIdx]
  by_cases hk : k < n
  · rw [Array.getElem?_eq_getElem (by omega), Option.map_some, if_pos ⟨by omega, by omega⟩]
    have h1 : d[k - 0]! = d[k]'(by omega) := by rw [Nat.sub_zero, getElem!_pos d k (by omega)]
    rw [h1]
    simp [ivs, finV, show k < d.size by omega]
  · rw [Array.getElem?_eq_none (by omega), Array.getElem?_eq_none (by simp [ivs]; omega)]
    rfl
/-- The order that Go's own sort gives. -/
def ordF (ks : List ByteArray) (n : Nat) [Inhabited (Fin n)] : Array (Fin n) := Go.Sort.pdq (Go.Proofs.ltOf (kcf ks n)) (List.finRange n).toArray 0 (List.finRange n).toArray.size (Lib.bitLen (List.finRange n).toArray.size) true true
def ordp (ks : List ByteArray) (n : Nat) : List Nat := if h : 0 < n then (@ordF ks n ⟨⟨0, h⟩⟩).toList.map Fin.val else []
set_option maxRecDepth 1000000 in
theorem sort_any (w : World) (B b off cap n g : Nat) (ks : List ByteArray) (hn0 : 0 < n) (hnk : n ≤ ks.length) (hn : n ≤ 10000000) (c11 : w.cell? ⟨B, 11, none⟩ = some (.slice (some ⟨b, off, none⟩) ks.length cap)) (hk : ∀ j s, ks[j]? = some s → w.cell? ⟨b, off + j, none⟩ = some (.string s))
    (hg : w.heap[g]? = some (.cells (ivs (List.range n)).toArray 3 (0, 0))) (hgB : B ≠ g) (hgb : b ≠ g) :
    Calls Tryz.prog 90 #[.slice (some ⟨g, 0, none⟩) n n, .func (.func 91) #[] #[.pointer (some ⟨B, 0, none⟩)]] w fun e w' => e = .returned (.tuple #[]) ∧ ∃ ps, ps = ordp ks n ∧ Srp ks n ps ∧ w'.heap[g]? = some (.cells (ivs ps).toArray 3 (0, 0)) ∧ Kp (fun q => q = g) w w' := by
  let inst : Inhabited (Fin n) := ⟨⟨0, hn0⟩⟩
  have eg : ∀ args w, (callFunc 91 args).run Tryz.prog w = .ok (.enter 91 args) w := enters_of Tryz.func91 (by kernel_rfl) rfl
  have hds : (List.finRange n).toArray.size = n := by simp
  have hdj : ∀ j (hj : j < n), (List.finRange n).toArray[j]! = ⟨j, hj⟩ := fun j hj => by
    rw [getElem!_pos _ j (by simpa using hj)]
    simp
  have hH : Go.Sort.Holds (finV n) w g 0 (List.finRange n).toArray := fun j hj => by
    rw [hds] at hj
    rw [hdj j hj, Nat.zero_add]
    refine ⟨blk_cell hg ?_, blk_frozen j hg⟩
    simp [ivs, finV, hj]
  have hcmp : Go.Proofs.CmpLays1 Tryz.prog 91 #[.pointer (some ⟨B, 0, none⟩)] (finV n) (kcf ks n) g 0 (List.finRange n).toArray.size w := by
    intro m os dk _ x y
    have hx : ks[x.val]? = some (ks.getD x.val ⟨#[]⟩) := by
      have := x.isLt
      simp [List.getD, List.getElem?_eq_getElem (show x.val < ks.length by omega)]
    have hy : ks[y.val]? = some (ks.getD y.val ⟨#[]⟩) := by
      have := y.isLt
      simp [List.getD, List.getElem?_eq_getElem (show y.val < ks.length by omega)]
    have hkp := sortW_kp (finV n) w g m dk os
    exact (clo_any (Go.Proofs.sortWorld (finV n) w g 0 m dk os) B b off ks.length cap x.val y.val _ _ (hkp.cell c11 hgB) (by have := x.isLt; omega) (by have := y.isLt; omega) (hkp.cell (hk _ _ hx) hgb) (hkp.cell (hk _ _ hy) hgb)).mono fun _ _ ⟨he, q, hq⟩ => ⟨he, q, #[], by rw [hq, Go.Sort.grow_empty]⟩
  have hS := Go.Proofs.Any.slices_SortFunc_eq Tryz.sortL (finV n) (fun _ => rfl) (kcf ks n) (kcf_swo ks n) 91 #[.pointer (some ⟨B, 0, none⟩)] g 0 n (List.finRange n).toArray w eg hcmp hH (blk_lt hg) (by rw [hds]; omega)
  have hpd := Go.Sort.pdq_sorts (Go.Proofs.ltOf (kcf ks n)) (kcf_swo ks n) (List.finRange n).toArray 0 (List.finRange n).toArray.size (Lib.bitLen (List.finRange n).toArray.size) true true (Nat.zero_le _) (Nat.le_refl _) (Or.inl rfl)
  have hod : ordp ks n = (ordF ks n).toList.map Fin.val := by
    unfold ordp
    rw [dif_pos hn0]
  have hS2 : Calls Tryz.prog 90 #[.slice (some ⟨g, 0, none⟩) n n, .func (.func 91) #[] #[.pointer (some ⟨B, 0, none⟩)]] w fun e w' => e = .returned (.tuple #[]) ∧ ∃ m os, w' = Go.Proofs.sortWorld (finV n) w g 0 m (ordF ks n) os := by
    have h := hS
    rw [show (Value.slice (some ⟨g, 0, none⟩) (List.finRange n).toArray.size n) = .slice (some ⟨g, 0, none⟩) n n by rw [hds]] at h
    exact h
  have hpd2 : Go.Sort.PermIn 0 (List.finRange n).toArray.size (List.finRange n).toArray (ordF ks n) ∧ Go.Sort.SortedIn (Go.Proofs.ltOf (kcf ks n)) 0 (List.finRange n).toArray.size (ordF ks n) := hpd
  clear hS hpd
  generalize ordF ks n = d' at *
  obtain ⟨hp, hs⟩ := hpd2
  rw [hds] at hp hs
  refine Calls.mono hS2 ?_
  rintro e w' ⟨he, m, os, rfl⟩
  have hd' : d'.size = n := by rw [hp.1, hds]
  have hperm : d'.toList.Perm (List.finRange n) := by
    have h := hp.2.2
    have e1 : d'.extract 0 n = d' := by
      have h2 : d'.extract 0 d'.size = d' := by simp
      rw [hd'] at h2
      exact h2
    have e2 : (List.finRange n).toArray.extract 0 n = (List.finRange n).toArray := by
      have h2 : (List.finRange n).take n = List.finRange n := List.take_of_length_le (by simp)
      simp [h2]
    rw [e1, e2] at h
    exact h
  refine ⟨he, d'.toList.map Fin.val, hod.symm, ⟨?_, ?_⟩, ?_, sortW_kp _ _ _ _ _ _⟩
  · have h := hperm.map Fin.val
    have e : (List.finRange n).map Fin.val = List.range n := by
      apply List.ext_getElem?
      intro j
      by_cases hj : j < n
      · simp [hj]
      · rw [List.getElem?_eq_none (by simpa using hj), List.getElem?_eq_none (by simpa using hj)]
    rw [e] at h
    exact h
  · intro i j p q hij h1 h2
    have hjl : j < d'.size := by
      have := (List.getElem?_eq_some_iff.1 h2).1
      simpa using this
    have hil : i < d'.size := by omega
    simp [hil] at h1
    simp [hjl] at h2
    have hl := hs i j (Nat.zero_le _) hij (by omega)
    rw [kcf_lt, getElem!_pos d' i hil, getElem!_pos d' j hjl, h1, h2] at hl
    exact hl
  · rw [sortW_block _ _ _ _ _ _ _ _ hg, put_ivs n d' _ hd' (by simp [ivs])]
end
section
open Go.RowKit Go
theorem Tin.all1 {w : World} {t : Tv} {c : Array Value} (h : Tin w t c) : c.all (·.oneCell') = true := by
  obtain ⟨vy, vk, vi, rfl, hy, hk, hv, _⟩ := h.parts
  obtain ⟨⟨ay, cy, rfl, _, _⟩, _⟩ := hy
  obtain ⟨⟨ak, ck, rfl, _, _⟩, _, _⟩ := hk
  obtain ⟨⟨ai, ci, rfl, _, _⟩, _⟩ := hv
  kernel_rfl
theorem Tin.size13 {w : World} {t : Tv} {c : Array Value} (h : Tin w t c) : c.size = 13 := by
  obtain ⟨vy, vk, vi, rfl, _⟩ := h.parts
  rfl
/-- A range's item in a variable of its own. -/
structure Itm (w wi : World) (c : Array Value) : Prop where
  b : Below w.heap.size w wi
  r : wi.heap[w.heap.size]? = some (.cells c 55 (0, 0))
  z : wi.heap.size = w.heap.size + 1
theorem itm_mk (w : World) (c : Array Value) : Itm w ((w.alloc (.cells zv 55)).setRow w.heap.size c) c := by
  have h0 := heap_alloc_new w (.cells zv 55)
  have hk := row_kp (w.alloc (.cells zv 55)) w.heap.size c
  refine ⟨(below_alloc4 w _).trans (hk.below (by simp) (fun q e => by omega)), row_same h0, ?_⟩
  simp [World.setRow]
theorem Itm.cells {w wi : World} {c : Array Value} (h : Itm w wi c) : ∀ j u, c[j]? = some u → wi.cell? ⟨w.heap.size, 0 + j, none⟩ = some u := fun j u hu => by
  rw [Nat.zero_add]
  exact blk_cell h.r hu

set_option maxRecDepth 1000000 in
set_option maxHeartbeats 1000000 in
theorem nests_any (t : Tv) (w : World) (cs : Array Value) (ht : Tin w t cs) : Calls Tryz.prog 19 #[.agg cs] w fun e w' => e = .returned (.bool (decide (t.k = 8 ∨ t.k = 9))) ∧ Below w.heap.size w w' := by
  obtain ⟨vy, vk, vi, rfl, hy, hk, hv, hb⟩ := ht.parts
  obtain ⟨⟨ay, cy, rfl, _, _⟩, _⟩ := hy
  obtain ⟨⟨ak, ck, rfl, _, _⟩, _, _⟩ := hk
  obtain ⟨⟨ai, ci, rfl, _, _⟩, _⟩ := hv
  clear ht hb
  unfold vcs
  have HB0 := hide (below_alloc4 w (.cells #[.int .i64 t.k, .bool t.f, .bool t.g, .int .u64 (t.n : Nat), .int .u64 (t.b : Nat), .string t.s, .slice ay t.y.length cy, .int .i64 t.l.v, .int .u64 (t.l.c : Nat), .int .u64 (t.l.h : Nat), .string (nstr t.l.d), .slice ak t.ks.length ck, .slice ai t.is.length ci] 55))
  go_enter Tryz.func19, Tryz.ntmps19
  by_cases h8 : t.k = 8
  · as_aux_lemma =>
    have g8 : (t.k == 8) = true := by rw [h8]; rfl
    have HR : Hid (decide (t.k = 8 ∨ t.k = 9) = true) := decide_eq_true (.inl h8)
    clear h8
    go_wp2_with fail
    go_ret
    exact ⟨by rw [HR.out]; rfl, HB0.out⟩
  · have g8 : (t.k == 8) = false := by simpa using h8
    by_cases h9 : t.k = 9
    · as_aux_lemma =>
      have g9 : (t.k == 9) = true := by rw [h9]; rfl
      have HR : Hid (decide (t.k = 8 ∨ t.k = 9) = true) := decide_eq_true (.inr h9)
      clear h8 h9
      go_wp2_with fail
      go_ret
      exact ⟨by rw [HR.out]; rfl, HB0.out⟩
    · as_aux_lemma =>
      have g9 : (t.k == 9) = false := by simpa using h9
      have HR : Hid (decide (t.k = 8 ∨ t.k = 9) = false) := decide_eq_false (fun h => h.elim h8 h9)
      clear h8 h9
      go_wp2_with fail
      go_ret
      exact ⟨by rw [HR.out]; rfl, HB0.out⟩
end
section
open Go.RowKit Go
/-- A value's own variable. -/
theorem box_mk (w : World) (c : Array Value) : Below w.heap.size w (w.alloc (.cells c 55)) ∧ (w.alloc (.cells c 55)).heap[w.heap.size]? = some (.cells c 55 (0, 0)) := ⟨below_alloc4 w _, heap_alloc_new w _⟩
set_option maxRecDepth 1000000 in
set_option maxHeartbeats 1000000 in
theorem depth_step (N : Nat) (ih : ∀ t : Tv, SizeOf.sizeOf t < N → ∀ (w : World) (cs : Array Value), Tin w t cs → tdepth t ≤ 6000000 → Calls Tryz.prog 7 #[.agg cs] w fun e w' => e = .returned (.int .i64 (tdepth t : Nat)) ∧ Below w.heap.size w w')
    (t : Tv) (hN : SizeOf.sizeOf t = N) (w : World) (cs : Array Value) (ht : Tin w t cs) (hd : tdepth t ≤ 6000000) : Calls Tryz.prog 7 #[.agg cs] w fun e w' => e = .returned (.int .i64 (tdepth t : Nat)) ∧ Below w.heap.size w w' := by
  have HIH := hide ih
  clear ih
  have HTN := hide ht
  obtain ⟨vy, vk, vi, rfl, hy, hk, hv, hb⟩ := ht.parts
  have HDE := hide (tdepth_eq t)
  have HNN := hide hN
  obtain ⟨⟨ay, cy, rfl, _, _⟩, _⟩ := hy
  obtain ⟨⟨ak, ck, rfl, _, _⟩, _, _⟩ := hk
  obtain ⟨⟨a, cap, rfl, hcap, hform⟩, hmax⟩ := hv
  have HF := hide hform
  clear hb ht hcap hform hN
  have HQ0 := hide (box_mk w (vcs t (.slice ay t.y.length cy) (.slice ak t.ks.length ck) (.slice a t.is.length cap)))
  generalize hcs : vcs t (.slice ay t.y.length cy) (.slice ak t.ks.length ck) (.slice a t.is.length cap) = cs at *
  have HZ : Hid (cs.size = 13) := by show _ = _; rw [← hcs]; rfl
  have HCI : Hid (cs[12]? = some (.slice a t.is.length cap)) := by show _ = _; rw [← hcs]; rfl
  clear hcs
  go_enter Tryz.func7, Tryz.ntmps7
  have HCB : Hid (∀ j u, cs[j]? = some u → (w.alloc (.cells cs 55)).cell? ⟨w.heap.size, 0 + j, none⟩ = some u) := fun j u hu => by rw [Nat.zero_add]; exact blk_cell HQ0.out.2 hu
  have HNE := hide (nests_any t (w.alloc (.cells cs 55)) cs (HTN.out.move (keep_below HQ0.out.1)))
  by_cases hk8 : t.k = 8 ∨ t.k = 9
  · rw [if_pos hk8] at HDE
    have HDL : Hid (tdepthL t.is ≤ 5999999) := by have := HDE.out; show _ ≤ _; omega
    rw [decide_eq_true hk8] at HNE
    clear hk8
    go_wp2_with (first
      | (refine wpList_valAt rfl rfl w.heap.size 0 cs rfl HZ.out HCB.out ?_)
      | (go_at_call 19; refine HNE.out.mono ?_; rintro e w1 ⟨rfl, hb1⟩; have HQ1 : Hid (Below w.heap.size w w1 ∧ w1.heap[w.heap.size]? = some (.cells cs 55 (0, 0))) := ⟨HQ0.out.1.trans (hb1.mono HQ0.out.1.size), (hb1.block _ (blk_lt HQ0.out.2)).trans HQ0.out.2⟩; clear hb1; have q12 : w1.cell? ⟨w.heap.size, 12, none⟩ = some (.slice a t.is.length cap) := blk_cell HQ1.out.2 HCI.out))
    clear HCB HNE HQ0
    go_loopw [3, 12] (fun mm ii wx => ∃ i m : Nat, i ≤ t.is.length ∧ m ≤ 5999999 ∧ mm = .int .i64 (m : Nat) ∧ ii = .int .i64 (i : Nat) ∧ Hid (m = tdepthL (t.is.take i)) ∧ Hid (Below w.heap.size w wx)) (fun _ ii _ => t.is.length - (intOf ii).toNat)
    case atStart => exact ⟨0, 0, by omega, by omega, rfl, rfl, by show _ = _; simp [tdepthL], HQ1.out.1⟩
    case round => as_aux_lemma =>
      rename World => wz
      obtain ⟨i, m, hi, hm, rfl, rfl, HM, HQ⟩ := hrel
      clear HQ1 q12
      by_cases hlt : i < t.is.length
      · have g1 : (i : Int) < (t.is.length : Int) := by omega
        obtain ⟨u, hu⟩ : ∃ u, t.is[i]? = some u := ⟨t.is[i], List.getElem?_eq_getElem hlt⟩
        obtain ⟨b, off, rfl, hcells⟩ := HF.out.resolve_left (fun h => by rw [h] at hlt; simp at hlt)
        obtain ⟨cu, hcu, hcc⟩ := hcells i u hu
        have HCC : Hid (∀ j v, cu[j]? = some v → wz.cell? ⟨b, off + i * 13 + j, none⟩ = some v) := fun j v hv => keep_below HQ.out _ _ (hcc j v hv)
        have hmem := List.mem_of_getElem? hu
        have HSZ := hide hcu.size13
        have HA1 := hide hcu.all1
        have hdu : tdepth u ≤ 5999999 := Nat.le_trans (tdepthL_mem hmem) HDL.out
        have HIT := hide (itm_mk wz cu)
        have HG0 := hide (heap_alloc_new wz (.cells zv 55))
        have HIN : Hid ((Tryz.prog.info? 55).map (·.size) = some cu.size) := by show _ = _; rw [HSZ.out]; exact infoV
        have HZV : Hid (zv.size = cu.size) := by show _ = _; rw [HSZ.out]; rfl
        have HCA := hide (HIH.out u (by rw [← HNN.out]; exact Tv.is_lt hmem) _ cu ((hcu.move (keep_below HQ.out)).move (keep_below HIT.out.b)) (by omega))
        have HCX := hide HIT.out.cells
        have HM2 : Hid (tdepthL (t.is.take (i + 1)) = max m (tdepth u)) := by
          show _ = _
          rw [takeT _ _ _ hu, tdepthL_app, ← HM.out]
          simp [tdepthL]
        clear hu hcells hcu hcc hmem
        generalize tdepth u = du at *
        go_wp2_with (first
          | (refine wpList_valAt rfl rfl b (off + i * 13) cu rfl HSZ.out HCC.out ?_)
          | (refine wpList_storeRow rfl rfl wz.heap.size zv cu 55 rfl rfl HG0.out HIN.out HZV.out HA1.out ?_)
          | (refine wpList_valAt rfl rfl wz.heap.size 0 cu rfl HSZ.out HCX.out ?_))
        refine HCA.out.mono ?_
        rintro e w5 ⟨rfl, hb5⟩
        have HQ5 : Hid (Below w.heap.size w w5) := (HQ.out.trans (HIT.out.b.mono HQ.out.size)).trans (hb5.mono (Nat.le_trans HQ.out.size HIT.out.b.size))
        clear hb5 HQ HCC HCA HCX HIT
        go_wp2_with fail
        have HME : Hid ((if m < du then (du : Int) else (m : Int)) = ((max m du : Nat) : Int)) := by
          show _ = _
          split <;> omega
        have HMX : Hid (max (m : Int) (du : Int) = ((max m du : Nat) : Int)) := by
          show _ = _
          omega
        go_roundw
        case rel => exact ⟨i + 1, max m du, by omega, by omega, by first | rw [HME.out] | rw [HMX.out], by go_num, HM2.out.symm, HQ5⟩
        case measure => simp [intOf]; omega
      · as_aux_lemma =>
        have g1 : ¬ (i : Int) < (t.is.length : Int) := by omega
        have HM3 : Hid (tdepth t = m + 1) := by
          show _ = _
          rw [HDE.out, HM.out, List.take_of_length_le (by omega)]
        go_wp2_with fail
        go_ret
        exact ⟨by rw [HM3.out]; rfl, HQ.out⟩
  · as_aux_lemma =>
    rw [if_neg hk8] at HDE
    rw [decide_eq_false hk8] at HNE
    clear hk8
    go_wp2_with (first
      | (refine wpList_valAt rfl rfl w.heap.size 0 cs rfl HZ.out HCB.out ?_)
      | (go_at_call 19; refine HNE.out.mono ?_; rintro e w1 ⟨rfl, hb1⟩))
    go_ret
    exact ⟨by rw [HDE.out]; rfl, HQ0.out.1.trans (hb1.mono HQ0.out.1.size)⟩
theorem depth_any (t : Tv) (w : World) (cs : Array Value) (ht : Tin w t cs) (hd : tdepth t ≤ 6000000) : Calls Tryz.prog 7 #[.agg cs] w fun e w' => e = .returned (.int .i64 (tdepth t : Nat)) ∧ Below w.heap.size w w' := by
  have h : ∀ N, ∀ t : Tv, SizeOf.sizeOf t = N → ∀ (w : World) (cs : Array Value), Tin w t cs → tdepth t ≤ 6000000 → Calls Tryz.prog 7 #[.agg cs] w fun e w' => e = .returned (.int .i64 (tdepth t : Nat)) ∧ Below w.heap.size w w' := by
    intro N
    induction N using Nat.strongRecOn with
    | _ N ih => exact fun t hN w cs ht hd => depth_step N (fun u hu => ih _ hu u rfl) t hN w cs ht hd
  exact h _ t rfl w cs ht hd
end
section
open Go.RowKit Go
theorem made_iv (c : Nat) : madeCells (Value.int .i64 0).cells c = (ivs (List.replicate c 0)).toArray := by
  apply Array.ext'
  simp only [madeCells, Value.cells, ivs, List.map_replicate]
  apply List.ext_getElem
  · simp
  · intro j h1 h2
    simp [Nat.mod_one]
/-- make([]int, n). -/
theorem mk_ints (w : World) (c : Nat) (hc : c ≤ 10000000) : (Instr.makeSlice 29 (.int .i64 (c : Nat)) (.int .i64 (c : Nat))).run Tryz.prog w = .ok (.slice (some ⟨w.heap.size, 0, none⟩) c c) (w.alloc (.cells (ivs (List.replicate c 0)).toArray 3)) := by
  obtain ⟨i3, hi, hz0, hz1, hz2⟩ := info3_ex
  have hr := run_make (P := Tryz.prog) w 29 3 i3 (.int .i64 0) Tryz.underlying29 hi hz0 .i64 .i64 c c (by omega) (by omega) (by rw [hz2]; omega) (by omega)
  simp only [Int.toNat_natCast, hz1, Nat.mul_one, made_iv] at hr
  exact hr
/-- What order has in hand. -/
structure Odw (w wx : World) (cs : Array Value) (n i : Nat) : Prop where
  b : Below w.heap.size w wx
  r : wx.heap[w.heap.size]? = some (.cells cs 55 (0, 0))
  o : wx.heap[w.heap.size + 1]? = some (.cells (ivs (List.range i ++ List.replicate (n - i) 0)).toArray 3 (0, 0))
theorem Odw.start (w : World) (cs : Array Value) (n : Nat) : Odw w ((w.alloc (.cells cs 55)).alloc (.cells (ivs (List.replicate n 0)).toArray 3)) cs n 0 := by
  have h0 := heap_alloc_new w (.cells cs 55)
  have e : (w.alloc (.cells cs 55)).heap.size = w.heap.size + 1 := by simp
  have h1 := heap_alloc_new (w.alloc (.cells cs 55)) (.cells (ivs (List.replicate n 0)).toArray 3)
  rw [e] at h1
  refine ⟨(below_alloc4 w _).trans ((below_alloc4 _ _).mono (by omega)), blk_alloc _ h0, ?_⟩
  simpa using h1
theorem Odw.set {w wx : World} {cs : Array Value} {n i : Nat} (h : Odw w wx cs n i) (hi : i < n) : Odw w (wx.setCell ⟨w.heap.size + 1, i, none⟩ (.int .i64 (i : Nat))) cs n (i + 1) := by
  have hk : Kp (fun q => q = w.heap.size + 1) wx (wx.setCell ⟨w.heap.size + 1, i, none⟩ (.int .i64 (i : Nat))) := (Kp.refl _ _).setCell _ _ (fun _ => rfl)
  refine ⟨h.b.trans (hk.below h.b.size (fun k e => by omega)), blk_other i _ h.r (by omega), ?_⟩
  rw [blk_set i _ h.o]
  congr 2
  apply Array.ext_getElem?
  intro k
  simp only [Array.getElem?_setIfInBounds, ivs, List.getElem?_toArray, List.map_append, List.size_toArray, List.length_append, List.length_map, List.length_range, List.length_replicate, List.map_replicate]
  by_cases e : i = k
  · subst e
    rw [if_pos rfl, if_pos (by omega), List.getElem?_append_left (by simp)]
    simp
  · rw [if_neg e]
    by_cases hk2 : k < i
    · rw [List.getElem?_append_left (by simpa using hk2), List.getElem?_append_left (by simp; omega)]
      simp [hk2, show k < i + 1 by omega]
    · rw [List.getElem?_append_right (by simp; omega), List.getElem?_append_right (by simp; omega)]
      simp only [List.length_map, List.length_range, List.getElem?_replicate]
      by_cases h3 : k < n
      · rw [if_pos (by omega), if_pos (by omega)]
      · rw [if_neg (by omega), if_neg (by omega)]
set_option maxRecDepth 1000000 in
set_option maxHeartbeats 1000000 in
theorem order6_any (t : Tv) (w : World) (cs : Array Value) (ht : Tin w t cs) (hn : min t.ks.length t.is.length ≤ 10000000) :
    Calls Tryz.prog 44 #[.agg cs] w fun e w' => ∃ v ps, e = .returned v ∧ ps = ordp t.ks (min t.ks.length t.is.length) ∧ Srp t.ks (min t.ks.length t.is.length) ps ∧ w'.ownsRow w.heap.size 3 1 v ps.length (ivs ps) ∧ Below w.heap.size w w' := by
  have hmf : ∀ (fn : Fn) (first cap : Array Value) (w : World), (Instr.makeFunc fn first cap).run Tryz.prog w = .ok (.func fn first cap) w := fun _ _ _ _ => rfl
  obtain ⟨vy, vk, vi, rfl, hy, hk, hv, hb⟩ := ht.parts
  obtain ⟨⟨ay, cy, rfl, _, _⟩, _⟩ := hy
  have HKS := hide hk
  obtain ⟨⟨ak, ck, rfl, hck, hkf⟩, hkm, hks⟩ := hk
  obtain ⟨⟨a, cap, rfl, hcap, hform⟩, hmax⟩ := hv
  have HKF := hide hkf
  clear hb ht hcap hform hkf hks
  generalize hcs : vcs t (.slice ay t.y.length cy) (.slice ak t.ks.length ck) (.slice a t.is.length cap) = cs at *
  have HCK : Hid (cs[11]? = some (.slice ak t.ks.length ck)) := by show _ = _; rw [← hcs]; rfl
  have HCI : Hid (cs[12]? = some (.slice a t.is.length cap)) := by show _ = _; rw [← hcs]; rfl
  clear hcs
  generalize hnn : min t.ks.length t.is.length = n at *
  have hnk : n ≤ t.ks.length := by omega
  have hmn : min (t.ks.length : Int) (t.is.length : Int) = (n : Int) := by omega
  clear hnn
  have HOS := hide (Odw.start w cs n)
  have q11 := blk_cell (j := 11) (heap_alloc_new w (.cells cs 55)) HCK.out
  have q12 := blk_cell (j := 12) (heap_alloc_new w (.cells cs 55)) HCI.out
  have hmk := mk_ints (w.alloc (.cells cs 55)) n hn
  go_enter Tryz.func44, Tryz.ntmps44
  go_wp2_with fail
  have HL0 : Hid (0 ≤ n ∧ Odw w ((w.alloc (.cells cs 55)).alloc (.cells (ivs (List.replicate n 0)).toArray 3)) cs n 0) := ⟨Nat.zero_le _, HOS.out⟩
  clear HOS q11 q12 hmk hmn
  go_loopw [15] (fun ii wx => ∃ i : Nat, i ≤ n ∧ ii = .int .i64 (i : Nat) ∧ Hid (Odw w wx cs n i)) (fun ii _ => n - (intOf ii).toNat)
  case atStart => exact ⟨0, HL0.out.1, rfl, HL0.out.2⟩
  case round =>
    obtain ⟨i, hi, rfl, HO⟩ := hrel
    clear HL0
    by_cases hlt : i < n
    · as_aux_lemma =>
      have g1 : (i : Int) < (n : Int) := by omega
      have c1 : wr.cell? ⟨w.heap.size + 1, i, none⟩ = some (.int .i64 0) := blk_cell HO.out.o (by
        simp only [ivs, List.map_append, List.getElem?_toArray]
        rw [List.getElem?_append_right (by simp)]
        simp only [List.map_replicate, List.length_map, List.length_range, Nat.sub_self, List.getElem?_replicate]
        rw [if_pos (by omega)]
        rfl)
      have f1 := blk_frozen i HO.out.o
      have HO2 := hide (HO.out.set hlt)
      go_wp2_with fail
      go_roundw
      case rel => exact ⟨i + 1, by omega, by go_num, HO2⟩
      case measure => simp [intOf]; omega
    · have g1 : ¬ (i : Int) < (n : Int) := by omega
      have e1 : i = n := by omega
      subst e1
      have hO := HO.out.o
      rw [Nat.sub_self, List.replicate_zero, List.append_nil] at hO
      have HBW := hide HO.out.b
      have HR := hide HO.out.r
      have HG := hide hO
      clear HO hO
      by_cases hz : i = 0
      · as_aux_lemma =>
        subst hz
        have HSF := hide (fun W => AnyF.slices_SortFunc_none (P := Tryz.prog) (ρ := Tryz.sortL_ren) { Tryz.sortL with } (some ⟨w.heap.size + 1, 0, none⟩) 0 (.func (.func 91) #[] #[.pointer (some ⟨w.heap.size, 0, none⟩)]) W)
        go_wp2_with (go_at_call 90; refine (Hid.out HSF wr).mono ?_; rintro e w' ⟨rfl, rfl⟩)
        go_ret
        refine ⟨_, [], rfl, by simp [ordp], ⟨by simp, fun i j p q _ h => by simp at h⟩, ?_, HBW.out⟩
        exact ⟨by simp [ivs], .inr ⟨w.heap.size + 1, 0, _, rfl, by omega, HG.out, Nat.le_refl _, by unfold maxLen; omega, by simp [ivs], by simp [ivs]⟩⟩
      · as_aux_lemma =>
        obtain ⟨b, off, rfl, hcc⟩ := HKF.out.resolve_left (fun h => by rw [h] at hnk; simp at hnk; omega)
        have hbl : ∀ j s, t.ks[j]? = some s → b < w.heap.size := fun j s hs => World.block_lt_of_cell? w _ (hcc j s hs)
        have hb1 : b < w.heap.size := hbl 0 _ (List.getElem?_eq_getElem (by omega))
        have HSF := hide (sort_any wr w.heap.size b off ck i (w.heap.size + 1) t.ks (by omega) hnk hn (blk_cell HR.out HCK.out) (fun j s hs => keep_below HBW.out _ _ (hcc j s hs)) HG.out (by omega) (by omega))
        clear hcc hbl
        go_wp2_with (go_at_call 90; refine (Hid.out HSF).mono ?_; rintro e w' ⟨rfl, ps, hpo, hps, hg', hkp⟩)
        go_ret
        have hln := hps.len
        refine ⟨_, ps, rfl, hpo, hps, ?_, HBW.out.trans (hkp.below HBW.out.size (fun k e => by omega))⟩
        exact ⟨by simp [ivs], .inr ⟨w.heap.size + 1, i, _, by rw [hln]; rfl, by omega, hg', by omega, by unfold maxLen; omega, by simp [ivs, hln], by rw [List.take_of_length_le (by simp [ivs])]⟩⟩
end
section
open Go.RowKit Go
/-- A value with other items. -/
def Tv.wi (t : Tv) (is : List Tv) : Tv := .mk t.k t.f t.g t.n t.b t.s t.y t.l t.ks is
/-- What remade has in hand. -/
structure Rm (w wx : World) (c : Array Value) : Prop where
  p : wx.heap[w.heap.size]? = some (.cells c 55 (0, 0))
  r : wx.heap[w.heap.size + 1]? = some (.cells zv 55 (0, 0))
  b : Below w.heap.size w wx
  z : w.heap.size + 2 ≤ wx.heap.size
theorem Rm.start (w : World) (c : Array Value) : Rm w ((w.alloc (.cells c 55)).alloc (.cells zv 55)) c := by
  have h1 := heap_alloc_new w (.cells c 55)
  have e1 : (w.alloc (.cells c 55)).heap.size = w.heap.size + 1 := by simp
  have h2 := heap_alloc_new (w.alloc (.cells c 55)) (.cells zv 55)
  rw [e1] at h2
  have b1 := below_alloc4 w (.cells c 55)
  have b2 := below_alloc4 (w.alloc (.cells c 55)) (.cells zv 55)
  exact ⟨blk_alloc _ h1, h2, b1.trans (b2.mono b1.size), by simp⟩
theorem Rm.next {w wx wy : World} {c : Array Value} (h : Rm w wx c) (hb : Below wx.heap.size wx wy) : Rm w wy c :=
  ⟨(hb.block _ (blk_lt h.p)).trans h.p, (hb.block _ (blk_lt h.r)).trans h.r, h.b.trans (hb.mono h.b.size), Nat.le_trans h.z hb.size⟩
theorem Rm.set {w wx : World} {c : Array Value} (h : Rm w wx c) (j : Nat) (v : Value) : Rm w (wx.setCell ⟨w.heap.size, j, none⟩ v) (c.setIfInBounds j v) ∧ Kp (fun q => q = w.heap.size) wx (wx.setCell ⟨w.heap.size, j, none⟩ v) := by
  have hk : Kp (fun q => q = w.heap.size) wx (wx.setCell ⟨w.heap.size, j, none⟩ v) := (Kp.refl _ _).setCell _ _ (fun _ => rfl)
  exact ⟨⟨blk_set j v h.p, blk_other j v h.r (by omega), h.b.trans (hk.below h.b.size (fun q e => by omega)), Nat.le_trans h.z hk.size⟩, hk⟩
theorem Nvi.ext {w : World} {B : Nat} {wx : World} {v : Value} {L : List (Array Value)} {is is2 : List Tv} (h : Nvi w B wx v L is) (he : ∀ j, j < L.length → is2[j]? = is[j]?) : Nvi w B wx v L is2 :=
  ⟨h.o, h.s, h.b, h.z, fun j u c h1 h2 => h.i j u c (by rw [← he j (List.getElem?_eq_some_iff.1 h2).1]; exact h1) h2⟩
/-- What is asked of the function that remade is handed. -/
def AgainC (F : Nat) (R : Tv → Tv → Prop) (u : Tv) : Prop := ∀ (w : World) (c : Array Value), Tin w u c → tmuch u ≤ 6000000 → Calls Tryz.prog F #[.agg c] w fun e w' => ∃ c' s, e = .returned (.agg c') ∧ R u s ∧ Ntv w' w.heap.size w'.heap.size s c' ∧ Below w.heap.size w w'
/-- Items made again. -/
structure Mad (R : Tv → Tv → Prop) (is js : List Tv) : Prop where
  n : js.length = is.length
  r : ∀ (i : Nat) (u s : Tv), is[i]? = some u → js[i]? = some s → R u s
theorem end_rm {wx : World} {R : Nat} {c : Array Value} {tmps : Array Value} (hn : c.size = 13) (hr : wx.heap[R]? = some (.cells c 55 (0, 0))) (hp : tmps.getD 4 undef = .pointer (some ⟨R, 0, none⟩)) : (results Tryz.f43 tmps).run Tryz.prog wx = .ok (.agg c) wx := by
  refine (results_one (p := 4) (ty := 55) rfl _ _ _).trans ?_
  rw [hp]
  have h1 := run_loadVar_row (P := Tryz.prog) wx R 55 55 c (0, 0) _ hr Tryz.underlying55 rfl (by rw [hn]; exact infoV)
  simp [asAddr, h1, Result.andThen]
set_option maxRecDepth 1000000 in
set_option maxHeartbeats 1000000 in
theorem remade_any (F : Nat) (eF : ∀ args w, (callFunc F args).run Tryz.prog w = .ok (.enter F args) w) (R : Tv → Tv → Prop) (t : Tv) (ih : ∀ u ∈ t.is, AgainC F R u) (w : World) (cs : Array Value) (ht : Tin w t cs) (hm : tmuch t ≤ 6000000) :
    Calls Tryz.prog 43 #[.agg cs, .func (.func F) #[] #[]] w fun e w' => ∃ c' js, e = .returned (.agg c') ∧ Mad R t.is js ∧ Ntv w' w.heap.size w'.heap.size (t.wi js) c' ∧ Below w.heap.size w w' := by
  have hme := tmuch_eq t
  have HIH := hide ih
  have HKL : Hid (t.ks.length ≤ 6000000) := by show _ ≤ _; omega
  have hlen : t.is.length ≤ 6000000 := by have := tmuchL_len t.is; omega
  have HML : Hid (tmuchL t.is ≤ 6000000) := by show _ ≤ _; omega
  clear ih hme hm
  obtain ⟨vy, vk, vi, rfl, hy, hk, hv, hb⟩ := ht.parts
  have HY := hide hy
  have HK := hide hk
  have HBD := hide hb
  obtain ⟨⟨ay, cy, rfl, _, _⟩, _, _⟩ := hy
  obtain ⟨⟨ak, ck, rfl, _, _⟩, _, _⟩ := hk
  obtain ⟨⟨a, cap, rfl, _, hform⟩, hmax⟩ := hv
  have HF := hide hform
  clear ht hb hform
  have HW0 := hide (Rm.start w (vcs t (.slice ay t.y.length cy) (.slice ak t.ks.length ck) (.slice a t.is.length cap)))
  have HZ0 : Hid (((w.alloc (.cells (vcs t (.slice ay t.y.length cy) (.slice ak t.ks.length ck) (.slice a t.is.length cap)) 55)).alloc (.cells zv 55)).heap.size = w.heap.size + 2) := by show _ = _; simp
  generalize hcs : vcs t (.slice ay t.y.length cy) (.slice ak t.ks.length ck) (.slice a t.is.length cap) = cs at *
  have HCS := hide hcs
  have HCI : Hid (cs[12]? = some (.slice a t.is.length cap)) := by show _ = _; rw [← hcs]; rfl
  clear hcs
  have q12 := blk_cell (j := 12) HW0.out.p HCI.out
  unfold zv at q12 HW0 HZ0
  go_enter Tryz.func43, Tryz.ntmps43
  go_wp2_with fail
  generalize (w.alloc (.cells cs 55)).alloc (.cells #[.int .i64 0, .bool false, .bool false, .int .u64 0, .int .u64 0, .string ⟨#[]⟩, .slice none 0 0, .int .i64 0, .int .u64 0, .int .u64 0, .string ⟨#[]⟩, .slice none 0 0, .slice none 0 0] 55) = w2 at *
  clear q12
  have HL0 : Hid (Nvi w2 w2.heap.size w2 (.slice none 0 0) [] []) := ⟨World.ownsRow_nil _ _ _ _, by simp, Below.refl _ _, Nat.le_refl _, fun j u c _ h => by simp at h⟩
  generalize hB : w2.heap.size = B at *
  have HBe := hide hB
  clear hB
  go_loopw [5, 11] (fun vv ii wx => ∃ (i : Nat) (L : List (Array Value)) (js : List Tv), i ≤ t.is.length ∧ ii = .int .i64 (i : Nat) ∧ Hid (L.length = i) ∧ Hid (js.length = i ∧ ∀ (j : Nat) (u s : Tv), t.is[j]? = some u → js[j]? = some s → R u s) ∧ Hid (Nvi w2 B wx vv L js)) (fun _ ii _ => t.is.length - (intOf ii).toNat)
  case atStart => exact ⟨0, [], [], by omega, rfl, rfl, ⟨rfl, fun j u s _ h => by simp at h⟩, HL0⟩
  case round =>
    obtain ⟨i, L, js, hi, rfl, HLn, HJ, HL⟩ := hrel
    clear HL0
    by_cases hlt : i < t.is.length
    · as_aux_lemma =>
      have g1 : (i : Int) < (t.is.length : Int) := by omega
      obtain ⟨u, hu⟩ : ∃ u, t.is[i]? = some u := ⟨t.is[i], List.getElem?_eq_getElem hlt⟩
      obtain ⟨b, off, rfl, hcells⟩ := HF.out.resolve_left (fun h => by rw [h] at hlt; simp at hlt)
      obtain ⟨cu, hcu, hcc⟩ := hcells i u hu
      have hb2 : Below w2.heap.size w2 wr := by have e := HL.out.b; rw [← HBe.out] at e; exact e
      have hkb : ∀ p x, w.cell? p = some x → wr.cell? p = some x := fun p x h => keep_below hb2 _ _ (keep_below HW0.out.b _ _ h)
      have HCC : Hid (∀ j x, cu[j]? = some x → wr.cell? ⟨b, off + i * 13 + j, none⟩ = some x) := fun j x hx => hkb _ _ (hcc j x hx)
      have hmem := List.mem_of_getElem? hu
      have HSZ := hide hcu.size13
      have HA1 := hide hcu.all1
      have HIT := hide (itm_mk wr cu)
      have HG0 := hide (heap_alloc_new wr (.cells zv 55))
      have HIN : Hid ((Tryz.prog.info? 55).map (·.size) = some cu.size) := by show _ = _; rw [HSZ.out]; exact infoV
      have HZV : Hid (zv.size = cu.size) := by show _ = _; rw [HSZ.out]; rfl
      have HCA := hide (HIH.out u hmem _ cu ((hcu.move hkb).move (keep_below HIT.out.b)) (Nat.le_trans (tmuchL_mem hmem) HML.out))
      have HCX := hide HIT.out.cells
      have HU := hide hu
      clear hu hcells hcu hcc hmem hkb hb2
      obtain ⟨ax, cx, hvx⟩ : ∃ ax cx, u5 = .slice ax L.length cx := by
        rcases HL.out.o.2 with ⟨e, h0⟩ | ⟨g, c, cur, e, _⟩
        · exact ⟨none, 0, by rw [e, h0]⟩
        · exact ⟨_, c, e⟩
      subst hvx
      go_wp2_with (first
        | (refine wpList_valAt rfl rfl b (off + i * 13) cu rfl HSZ.out HCC.out ?_)
        | (refine wpList_storeRow rfl rfl wr.heap.size zv cu 55 rfl rfl HG0.out HIN.out HZV.out HA1.out ?_)
        | (refine wpList_valAt rfl rfl wr.heap.size 0 cu rfl HSZ.out HCX.out ?_))
      refine HCA.out.mono ?_
      rintro e w5 ⟨c, s, rfl, hrs, hlt5, hb5⟩
      have hi1 := HIT.out.b.size
      have hsz5 := hb5.size
      have HL5 := hide ((HL.out.next HIT.out.b).next hb5)
      have HC5 := hide hlt5
      have HO := hide hlt5.one
      have HQ : Hid (∀ q, (Value.slice ax L.length cx).ownBlock = some q → q < wr.heap.size) := fun q hq => (HL.out.o.lt q hq).2
      have HZ5 : Hid (B ≤ wr.heap.size) := HL.out.z
      have HZ6 : Hid (wr.heap.size ≤ ((wr.alloc (.cells zv 55)).setRow wr.heap.size cu).heap.size) := hi1
      have HJ2 : Hid ((js ++ [s]).length = i + 1 ∧ ∀ (j : Nat) (u s' : Tv), t.is[j]? = some u → (js ++ [s])[j]? = some s' → R u s') := by
        refine ⟨by rw [List.length_append, HJ.out.1]; rfl, fun j u' s' h1 h2 => ?_⟩
        rcases Nat.lt_or_ge j js.length with hj | hj
        · rw [List.getElem?_append_left hj] at h2
          exact HJ.out.2 j u' s' h1 h2
        · rw [List.getElem?_append_right hj] at h2
          have hj0 : j - js.length = 0 := by
            rcases Nat.eq_zero_or_pos (j - js.length) with e | e
            · exact e
            · rw [List.getElem?_eq_none (by simp; omega)] at h2
              cases h2
          rw [hj0] at h2
          simp at h2
          subst h2
          have hji : j = i := by have := HJ.out.1; omega
          rw [hji, HU.out] at h1
          injection h1 with h1
          subst h1
          exact hrs
      clear hlt5 hb5 HL HCC HCA HCX HIT HG0 hrs hi1 hsz5
      have HL6 := hide (HL5.out.next (below_alloc4 w5 (.cells c 55)))
      have HC6 : Hid (Ntv (w5.alloc (.cells c 55)) ((wr.alloc (.cells zv 55)).setRow wr.heap.size cu).heap.size w5.heap.size s c) := HC5.out.kept (below_alloc4 w5 _)
      have HG6 : Hid ((w5.alloc (.cells c 55)).heap[w5.heap.size]? = some (.cells c 55 (0, 0))) := heap_alloc_new w5 _
      have HS6 : Hid (w5.heap.size ≤ (w5.alloc (.cells c 55)).heap.size) := (below_alloc4 w5 (.cells c 55)).size
      have HLL : Hid (L.length < 1099511627) := by have := HLn.out; show _ < _; omega
      clear HL5 HC5
      go_wp2_with (first
        | (refine wpList_val1 rfl rfl c HO.out.1 rfl ?_)
        | (at_builtin; refine append_val rfl _ _ rfl B _ L.length (vfl L) rfl HL6.out.o w5.heap.size c HO.out rfl HG6.out HLL.out HL6.out.z ?_))
      intro v7 w7 ho7 hg7 hv7
      have HL7 : Hid (Nvi w2 B w7 v7 (L ++ [c]) (js ++ [s])) := by
        refine (HL6.out.ext (fun j hj => ?_)).app HO.out.1 ho7 hg7 (by simpa using hv7) (fun u' hu' => ?_)
        · rw [List.getElem?_append_left (by rw [HJ.out.1, ← HLn.out]; exact hj)]
        · have e : L.length = js.length := by rw [HLn.out, HJ.out.1]
          rw [e] at hu'
          simp at hu'
          subst hu'
          have h1 := HZ5.out
          have h2 := HZ6.out
          exact ⟨_, w5.heap.size, Nat.le_trans h1 h2, HS6.out, fun q hq => .inl (by have := HQ.out q hq; omega), HC6.out⟩
      have HLn7 : Hid ((L ++ [c]).length = i + 1) := by show _ = _; rw [List.length_append, HLn.out]; rfl
      clear ho7 hg7 hv7 HL6 HC6 HG6
      go_wp2_with fail
      go_roundw
      case rel => exact ⟨i + 1, L ++ [c], js ++ [s], by omega, by go_num, HLn7, HJ2, HL7⟩
      case measure => simp [intOf]; omega
    · as_aux_lemma =>
      have hiL : i = t.is.length := by omega
      obtain ⟨ax, cx, hvx⟩ : ∃ ax cx, u5 = .slice ax t.is.length cx := by
        rcases HL.out.o.2 with ⟨e, h0⟩ | ⟨g, c, cur, e, _⟩
        · exact ⟨none, 0, by rw [e, ← hiL, ← HLn.out, h0]⟩
        · exact ⟨_, c, by rw [e, HLn.out, hiL]⟩
      subst hvx
      have hb3 : Below w2.heap.size w2 wr := by have e := HL.out.b; rw [← HBe.out] at e; exact e
      have HW3 := hide (HW0.out.next hb3)
      have HMD : Hid (Mad R t.is js) := ⟨by rw [HJ.out.1, hiL], HJ.out.2⟩
      have HLI : Hid (L.length = t.is.length) := by show _ = _; rw [HLn.out, hiL]
      have HCY : Hid (cs[6]? = some (.slice ay t.y.length cy)) := by show _ = _; rw [← HCS.out]; rfl
      have HOI : Hid (wr.ownsRow (w.heap.size + 2) 55 13 (.slice ax t.is.length cx) t.is.length (vfl L)) := by
        have e := HL.out.o
        rw [HZ0.out, HLI.out] at e
        exact e
      have HGI : Hid (∀ q, (Value.slice ax t.is.length cx).ownBlock = some q → w.heap.size + 2 ≤ q ∧ q < wr.heap.size) := fun q hq => HOI.out.lt q hq
      have HNI : Hid (∀ (j : Nat) (u : Tv) (c : Array Value), js[j]? = some u → L[j]? = some c → Ntv wr (w.heap.size + 2) wr.heap.size u c) := fun j u c h1 h2 => by
        obtain ⟨lo, hi, e1, e2, _, e4⟩ := HL.out.i j u c h1 h2
        rw [HZ0.out] at e1
        exact e4.mono e1 e2
      have H13 := hide HL.out.s
      clear HL HJ HLn hb3 hlt hi
      subst hiL
      have c6 := blk_cell (j := 6) HW3.out.p HCY.out
      have g1 : ¬ (t.is.length : Int) < (t.is.length : Int) := by omega
      go_wp2_with (at_builtin; refine append_bsl rfl _ _ rfl wr.heap.size _ 0 [] rfl (World.ownsRow_nil _ _ _ _) _ t.y rfl (HY.out.move (keep_below HW3.out.b)) ?b1 ?b2 ?_)
      case b1 => have := HBD.out.y; omega
      intro v4 w4 ho4 hg4
      have hb4 : Below wr.heap.size wr w4 := (Below.refl _ _).grown hg4 (Nat.le_refl _) (fun q hq => by cases hq)
      have hz3 := HW3.out.z
      have ho4' : w4.ownsRow wr.heap.size 5 1 v4 t.y.length (bv t.y) := by simpa using ho4
      clear ho4 hg4
      obtain ⟨ya, yc, hv4⟩ := own_slice ho4'
      subst hv4
      have hs4 := hb4.size
      have HGY : Hid (∀ q, (Value.slice ya t.y.length yc).ownBlock = some q → w.heap.size + 2 ≤ q ∧ q < w4.heap.size) := fun q hq => by have := ho4'.lt q hq; exact ⟨by omega, this.2⟩
      have HY4 := hide (own_mono ho4' (show w.heap.size + 2 ≤ wr.heap.size by omega))
      have HI4 := hide ((Kp.of_below (S := fun _ => False) hb4).owns HOI.out (fun _ _ h => h))
      have HN4 : Hid (∀ (j : Nat) (u : Tv) (c : Array Value), js[j]? = some u → L[j]? = some c → Ntv w4 (w.heap.size + 2) wr.heap.size u c) := fun j u c h1 h2 => (HNI.out j u c h1 h2).kept hb4
      have HS4 : Hid (wr.heap.size ≤ w4.heap.size) := hs4
      have HZ3 : Hid (w.heap.size + 2 ≤ wr.heap.size) := hz3
      have HW4 := hide (HW3.out.next hb4)
      clear ho4' hb4 HW3 hs4 hz3 HOI HNI c6
      have c6 := blk_cell (j := 6) HW4.out.p HCY.out
      have f6 := blk_frozen 6 HW4.out.p
      have hset := HW4.out.set 6 (.slice ya t.y.length yc)
      rw [← HCS.out, (setv t _ _ _ _).1] at hset
      have HW5 := hide hset.1
      have HY5 := hide (hset.2.owns HY4.out (fun q hq e => by have := HGY.out q hq; omega))
      have HI5 := hide (hset.2.owns HI4.out (fun q hq e => by have := HGI.out q hq; omega))
      have HN5 : Hid (∀ (j : Nat) (u : Tv) (c : Array Value), js[j]? = some u → L[j]? = some c → Ntv (w4.setCell ⟨w.heap.size, 6, none⟩ (.slice ya t.y.length yc)) (w.heap.size + 2) wr.heap.size u c) := fun j u c h1 h2 => (HN4.out j u c h1 h2).kp hset.2 (fun q h3 _ e => by omega)
      have HS5 : Hid (wr.heap.size ≤ (w4.setCell ⟨w.heap.size, 6, none⟩ (.slice ya t.y.length yc)).heap.size ∧ w4.heap.size ≤ (w4.setCell ⟨w.heap.size, 6, none⟩ (.slice ya t.y.length yc)).heap.size) := ⟨Nat.le_trans HS4.out hset.2.size, hset.2.size⟩
      have c11 := blk_cell (j := 11) HW5.out.p rfl
      have HK5 := hide (HK.out.move (keep_below HW5.out.b))
      clear hset HW4 HY4 HI4 HN4 HCS
      go_wp2_with (at_builtin; refine append_ssl rfl _ _ rfl (w4.setCell ⟨w.heap.size, 6, none⟩ (.slice ya t.y.length yc)).heap.size _ 0 [] rfl (World.ownsRow_nil _ _ _ _) _ t.ks rfl HK5.out ?b3 ?b4 ?_)
      case b3 => have := HKL.out; omega
      case b4 => exact Nat.le_refl _
      intro v6 w6 ho6 hg6
      generalize w4.setCell ⟨w.heap.size, 6, none⟩ (.slice ya t.y.length yc) = w5 at *
      have hb6 : Below w5.heap.size w5 w6 := (Below.refl _ _).grown hg6 (Nat.le_refl _) (fun q hq => by cases hq)
      have hz5 := HW5.out.z
      have ho6' : w6.ownsRow w4.heap.size 9 1 v6 t.ks.length (sv t.ks) := by simpa using ho6
      clear ho6 hg6 c6 f6 c11
      obtain ⟨ka, kc, hv6⟩ := own_slice ho6'
      subst hv6
      have hs6 := hb6.size
      have HGK : Hid (∀ q, (Value.slice ka t.ks.length kc).ownBlock = some q → w.heap.size + 2 ≤ q ∧ q < w6.heap.size) := fun q hq => by have := ho6'.lt q hq; have := HS4.out; have := HZ3.out; exact ⟨by omega, by omega⟩
      have HK6 := hide (own_mono ho6' (show w.heap.size + 2 ≤ w4.heap.size by have := HS4.out; have := HZ3.out; omega))
      have HY6 := hide ((Kp.of_below (S := fun _ => False) hb6).owns HY5.out (fun _ _ h => h))
      have HI6 := hide ((Kp.of_below (S := fun _ => False) hb6).owns HI5.out (fun _ _ h => h))
      have HN6 : Hid (∀ (j : Nat) (u : Tv) (c : Array Value), js[j]? = some u → L[j]? = some c → Ntv w6 (w.heap.size + 2) wr.heap.size u c) := fun j u c h1 h2 => (HN5.out j u c h1 h2).kept hb6
      have HS6 : Hid (wr.heap.size ≤ w6.heap.size ∧ w4.heap.size ≤ w6.heap.size) := by have := HS5.out; exact ⟨by omega, by omega⟩
      have HW6 := hide (HW5.out.next hb6)
      have HKS := hide HK.out.size
      clear ho6' hb6 HW5 hs6 hz5 HI5 HN5 HY5 HK5
      have c11 := blk_cell (j := 11) HW6.out.p rfl
      have f11 := blk_frozen 11 HW6.out.p
      have hset := HW6.out.set 11 (.slice ka t.ks.length kc)
      rw [(setv t _ _ _ _).2.1] at hset
      have HW7 := hide hset.1
      have HY7 := hide (hset.2.owns HY6.out (fun q hq e => by have := HGY.out q hq; omega))
      have HK7 := hide (hset.2.owns HK6.out (fun q hq e => by have := HGK.out q hq; omega))
      have HI7 := hide (hset.2.owns HI6.out (fun q hq e => by have := HGI.out q hq; omega))
      have HN7 : Hid (∀ (j : Nat) (u : Tv) (c : Array Value), js[j]? = some u → L[j]? = some c → Ntv (w6.setCell ⟨w.heap.size, 11, none⟩ (.slice ka t.ks.length kc)) (w.heap.size + 2) wr.heap.size u c) := fun j u c h1 h2 => (HN6.out j u c h1 h2).kp hset.2 (fun q h3 _ e => by omega)
      have HS7 : Hid (wr.heap.size ≤ (w6.setCell ⟨w.heap.size, 11, none⟩ (.slice ka t.ks.length kc)).heap.size ∧ w4.heap.size ≤ (w6.setCell ⟨w.heap.size, 11, none⟩ (.slice ka t.ks.length kc)).heap.size ∧ w6.heap.size ≤ (w6.setCell ⟨w.heap.size, 11, none⟩ (.slice ka t.ks.length kc)).heap.size) := ⟨Nat.le_trans HS6.out.1 hset.2.size, Nat.le_trans HS6.out.2 hset.2.size, hset.2.size⟩
      clear hset HW6 HY6 HI6 HN6 HK6
      have c12 := blk_cell (j := 12) HW7.out.p rfl
      have f12 := blk_frozen 12 HW7.out.p
      have hset := HW7.out.set 12 (.slice ax t.is.length cx)
      rw [(setv t _ _ _ _).2.2] at hset
      have HW9 := hide hset.1
      have HLT : Hid (Ntv ((w6.setCell ⟨w.heap.size, 11, none⟩ (.slice ka t.ks.length kc)).setCell ⟨w.heap.size, 12, none⟩ (.slice ax t.is.length cx)) (w.heap.size + 2) (w6.setCell ⟨w.heap.size, 11, none⟩ (.slice ka t.ks.length kc)).heap.size (t.wi js) (vcs t (.slice ya t.y.length yc) (.slice ka t.ks.length kc) (.slice ax t.is.length cx))) := by
        have h5 := HS7.out
        have hjl : js.length = t.is.length := HMD.out.n
        refine Ntv.mk (t.wi js) _ _ _ L ⟨HBD.out.n, HBD.out.b, HBD.out.s, HBD.out.y, HBD.out.l, HBD.out.d⟩ HY.out.byte ?_ (fun q hq => by have := HGY.out q hq; omega) ?_ (fun q hq => by have := HGK.out q hq; omega) (Nat.le_trans HKL.out (by omega)) HKS.out ?_ (fun q hq => by have := HGI.out q hq; omega) (show js.length ≤ _ by omega) (show L.length = js.length by rw [HLI.out, hjl]) H13.out (fun i u c e1 e2 => ?_)
        · exact hset.2.owns HY7.out (fun q hq e => by have := HGY.out q hq; omega)
        · exact hset.2.owns HK7.out (fun q hq e => by have := HGK.out q hq; omega)
        · show World.ownsRow _ _ _ _ _ js.length _
          rw [hjl]
          exact hset.2.owns HI7.out (fun q hq e => by have := HGI.out q hq; omega)
        · exact ((HN7.out i u c e1 e2).kp hset.2 (fun q h5 h6 e => by omega)).mono (Nat.le_refl _) h5.1
      have HS9 : Hid ((w6.setCell ⟨w.heap.size, 11, none⟩ (.slice ka t.ks.length kc)).heap.size ≤ ((w6.setCell ⟨w.heap.size, 11, none⟩ (.slice ka t.ks.length kc)).setCell ⟨w.heap.size, 12, none⟩ (.slice ax t.is.length cx)).heap.size) := hset.2.size
      clear hset HW7 HY7 HK7 HI7 HN7
      have HXL : Hid (∀ j v, (vcs t (.slice ya t.y.length yc) (.slice ka t.ks.length kc) (.slice ax t.is.length cx))[j]? = some v → ((w6.setCell ⟨w.heap.size, 11, none⟩ (.slice ka t.ks.length kc)).setCell ⟨w.heap.size, 12, none⟩ (.slice ax t.is.length cx)).cell? ⟨w.heap.size, 0 + j, none⟩ = some v) := fun j v hv => by
        rw [Nat.zero_add]
        exact blk_cell HW9.out.p hv
      have HON := hide HLT.out.one
      have HONA : Hid ((vcs t (.slice ya t.y.length yc) (.slice ka t.ks.length kc) (.slice ax t.is.length cx)).all (·.oneCell') = true) := by
        show _ = _
        rw [Array.all_eq_true']
        intro u hu
        exact HON.out.2 u (by simpa using hu)
      have HIN : Hid ((Tryz.prog.info? 55).map (·.size) = some (vcs t (.slice ya t.y.length yc) (.slice ka t.ks.length kc) (.slice ax t.is.length cx)).size) := infoV
      have HR9 := hide HW9.out.r
      have HZV : Hid (zv.size = (vcs t (.slice ya t.y.length yc) (.slice ka t.ks.length kc) (.slice ax t.is.length cx)).size) := rfl
      go_wp2_with (first
        | (refine wpList_valAt rfl rfl w.heap.size 0 (vcs t (.slice ya t.y.length yc) (.slice ka t.ks.length kc) (.slice ax t.is.length cx)) rfl rfl HXL.out ?_)
        | (refine wpList_storeRow rfl rfl (w.heap.size + 1) zv (vcs t (.slice ya t.y.length yc) (.slice ka t.ks.length kc) (.slice ax t.is.length cx)) 55 rfl rfl HR9.out HIN.out HZV.out HONA.out ?_))
      have hkr := row_kp ((w6.setCell ⟨w.heap.size, 11, none⟩ (.slice ka t.ks.length kc)).setCell ⟨w.heap.size, 12, none⟩ (.slice ax t.is.length cx)) (w.heap.size + 1) (vcs t (.slice ya t.y.length yc) (.slice ka t.ks.length kc) (.slice ax t.is.length cx))
      have hzr := hkr.size
      have h89 := HS9.out
      exact bodyPost_ret (end_rm rfl (row_same HR9.out) rfl) rfl ⟨_, js, rfl, HMD.out, (HLT.out.kp hkr (fun q h1 h2 e => by omega)).mono (by omega) (by omega), HW9.out.b.trans (hkr.below HW9.out.b.size (fun q e => by omega))⟩
end
section
open Go.RowKit Go
/-- A value in new memory all of whose lists have blocks of their own, within D. -/
inductive Nos (w : World) (lo : Nat) : (Nat → Prop) → Tv → Array Value → Prop
  | mk (D : Nat → Prop) (t : Tv) (vy vk vi : Value) (L : List (Array Value)) (E : Nat → Nat → Prop) (hbd : Tbd t) (hyb : ∀ x ∈ t.y, x < 256) (hy : w.ownsRow lo 5 1 vy t.y.length (bv t.y)) (hk : w.ownsRow lo 9 1 vk t.ks.length (sv t.ks)) (hkl : t.ks.length ≤ 140737488351232) (hks : ∀ s ∈ t.ks, s.size ≤ 140737488351232) (hv : w.ownsRow lo 55 13 vi t.is.length (vfl L)) (hil : t.is.length ≤ 140737488351232) (hL : L.length = t.is.length) (h13 : ∀ c ∈ L, one13 c)
      (hDy : ∀ q, vy.ownBlock = some q → D q) (hDk : ∀ q, vk.ownBlock = some q → D q) (hDi : ∀ q, vi.ownBlock = some q → D q)
      (hE : ∀ i, i < t.is.length → ∀ q, E i q → D q ∧ vy.ownBlock ≠ some q ∧ vk.ownBlock ≠ some q ∧ vi.ownBlock ≠ some q) (hdj : ∀ i j, i < j → j < t.is.length → ∀ q, E i q → ¬ E j q)
      (hcs : ∀ (i : Nat) (u : Tv) (c : Array Value), t.is[i]? = some u → L[i]? = some c → Nos w lo (E i) u c) : Nos w lo D t (vcs t vy vk vi)
theorem Nos.ots {w : World} {lo : Nat} {D : Nat → Prop} {t : Tv} {c : Array Value} (h : Nos w lo D t c) : Ots w lo D t c := by
  induction h with
  | mk D t vy vk vi L E hbd hyb hy hk hkl hks hv hil hL h13 hDy hDk hDi hE hdj hcs ih =>
    exact Ots.mk D t vy vk vi L E hbd hyb hy hk hv hL h13 hDy hDk hDi hE hdj ih
theorem Nos.ntv {w : World} {lo hi : Nat} {D : Nat → Prop} {t : Tv} {c : Array Value} (h : Nos w lo D t c) : (∀ q, D q → q < hi) → Ntv w lo hi t c := by
  induction h with
  | mk D t vy vk vi L E hbd hyb hy hk hkl hks hv hil hL h13 hDy hDk hDi hE hdj hcs ih =>
    intro hD
    exact Ntv.mk t vy vk vi L hbd hyb hy (fun q e => hD q (hDy q e)) hk (fun q e => hD q (hDk q e)) hkl hks hv (fun q e => hD q (hDi q e)) hil hL (fun c hc => (h13 c hc).1) (fun i u c h1 h2 => ih i u c h1 h2 (fun q e => hD q (hE i (List.getElem?_eq_some_iff.1 h1).1 q e).1))
theorem Nos.kp {w w' : World} {lo : Nat} {D S : Nat → Prop} {t : Tv} {c : Array Value} (h : Nos w lo D t c) (hk : Kp S w w') : (∀ q, D q → ¬ S q) → Nos w' lo D t c := by
  induction h with
  | mk D t vy vk vi L E hbd hyb hy hkk hkl hks hv hil hL h13 hDy hDk hDi hE hdj hcs ih =>
    intro hs
    exact Nos.mk D t vy vk vi L E hbd hyb (hk.owns hy (fun q e => hs q (hDy q e))) (hk.owns hkk (fun q e => hs q (hDk q e))) hkl hks (hk.owns hv (fun q e => hs q (hDi q e))) hil hL h13 hDy hDk hDi hE hdj (fun i u c h1 h2 => ih i u c h1 h2 (fun q e => hs q (hE i (List.getElem?_eq_some_iff.1 h1).1 q e).1))
theorem Nos.base {w : World} {lo lo' : Nat} {D : Nat → Prop} {t : Tv} {c : Array Value} (h : Nos w lo D t c) (hl : lo' ≤ lo) : Nos w lo' D t c := by
  induction h with
  | mk D t vy vk vi L E hbd hyb hy hk hkl hks hv hil hL h13 hDy hDk hDi hE hdj hcs ih =>
    exact Nos.mk D t vy vk vi L E hbd hyb (own_mono hy hl) (own_mono hk hl) hkl hks (own_mono hv hl) hil hL h13 hDy hDk hDi hE hdj ih
theorem Nos.mono {w : World} {lo lo' : Nat} {D D' : Nat → Prop} {t : Tv} {c : Array Value} (h : Nos w lo D t c) (hl : lo' ≤ lo) (hD : ∀ q, D q → D' q) : Nos w lo' D' t c := by
  cases h.base hl with
  | mk _ _ vy vk vi L E hbd hyb hy hk hkl hks hv hil hL h13 hDy hDk hDi hE hdj hcs =>
    exact Nos.mk D' t vy vk vi L E hbd hyb hy hk hkl hks hv hil hL h13 (fun q e => hD q (hDy q e)) (fun q e => hD q (hDk q e)) (fun q e => hD q (hDi q e)) (fun i hi q e => ⟨hD q (hE i hi q e).1, (hE i hi q e).2⟩) hdj hcs
/-- The same, within a range. -/
def Nor (w : World) (lo hi : Nat) (t : Tv) (c : Array Value) : Prop := Nos w lo (fun q => lo ≤ q ∧ q < hi) t c
theorem Nor.ntv {w : World} {lo hi : Nat} {t : Tv} {c : Array Value} (h : Nor w lo hi t c) : Ntv w lo hi t c := Nos.ntv h (fun _ e => e.2)
theorem Nor.tin {w : World} {lo hi : Nat} {t : Tv} {c : Array Value} (h : Nor w lo hi t c) : Tin w t c := h.ntv.tin
theorem Nor.size {w : World} {lo hi : Nat} {t : Tv} {c : Array Value} (h : Nor w lo hi t c) : c.size = 13 := h.ntv.size
theorem Nor.one {w : World} {lo hi : Nat} {t : Tv} {c : Array Value} (h : Nor w lo hi t c) : one13 c := h.ntv.one
theorem Nor.kp {w w' : World} {lo hi : Nat} {t : Tv} {c : Array Value} {S : Nat → Prop} (h : Nor w lo hi t c) (hk : Kp S w w') (hs : ∀ q, lo ≤ q → q < hi → ¬ S q) : Nor w' lo hi t c := Nos.kp h hk (fun q e => hs q e.1 e.2)
theorem Nor.kept {w w' : World} {lo hi : Nat} {t : Tv} {c : Array Value} (h : Nor w lo hi t c) (hb : Below w.heap.size w w') : Nor w' lo hi t c := h.kp (Kp.of_below (S := fun _ => False) hb) (fun _ _ _ h => h)
theorem Nor.mono {w : World} {lo hi lo' hi' : Nat} {t : Tv} {c : Array Value} (h : Nor w lo hi t c) (h1 : lo' ≤ lo) (h2 : hi ≤ hi') : Nor w lo' hi' t c := Nos.mono h h1 (fun _ e => ⟨Nat.le_trans h1 e.1, Nat.lt_of_lt_of_le e.2 h2⟩)
/-- One of many items. -/
structure Noi (w : World) (lo hi : Nat) (E : Nat → Prop) (u : Tv) (c : Array Value) : Prop where
  n : Nos w lo E u c
  r : ∀ q, E q → lo ≤ q ∧ q < hi
theorem Noi.kp {w w' : World} {lo hi : Nat} {E : Nat → Prop} {t : Tv} {c : Array Value} {S : Nat → Prop} (h : Noi w lo hi E t c) (hk : Kp S w w') (hs : ∀ q, lo ≤ q → q < hi → E q → ¬ S q) : Noi w' lo hi E t c := ⟨h.n.kp hk (fun q e => hs q (h.r q e).1 (h.r q e).2 e), h.r⟩
theorem Noi.kept {w w' : World} {lo hi : Nat} {E : Nat → Prop} {t : Tv} {c : Array Value} (h : Noi w lo hi E t c) (hb : Below w.heap.size w w') : Noi w' lo hi E t c := h.kp (Kp.of_below (S := fun _ => False) hb) (fun _ _ _ _ h => h)
theorem Noi.mono {w : World} {lo hi lo' hi' : Nat} {E : Nat → Prop} {t : Tv} {c : Array Value} (h : Noi w lo hi E t c) (h1 : lo' ≤ lo) (h2 : hi ≤ hi') : Noi w lo' hi' E t c := ⟨h.n.base h1, fun q e => ⟨Nat.le_trans h1 (h.r q e).1, Nat.lt_of_lt_of_le (h.r q e).2 h2⟩⟩
/-- Items being appended, each with blocks of its own. -/
structure Nvo (w : World) (B : Nat) (wx : World) (v : Value) (L : List (Array Value)) (is : List Tv) (E : Nat → Nat → Prop) : Prop where
  o : wx.ownsRow B 55 13 v L.length (vfl L)
  s : ∀ c ∈ L, one13 c
  b : Below B w wx
  z : B ≤ wx.heap.size
  i : ∀ (j : Nat) (u : Tv) (c : Array Value), is[j]? = some u → L[j]? = some c → Noi wx B wx.heap.size (E j) u c
  e : ∀ j, j < L.length → ∀ q, E j q → q < wx.heap.size ∧ v.ownBlock ≠ some q
  d : ∀ i j, i < j → j < L.length → ∀ q, E i q → ¬ E j q
theorem Nvo.next {w : World} {B : Nat} {wx wy : World} {v : Value} {L : List (Array Value)} {is : List Tv} {E : Nat → Nat → Prop} (h : Nvo w B wx v L is E) (hb : Below wx.heap.size wx wy) : Nvo w B wy v L is E :=
  ⟨(Kp.of_below (S := fun _ => False) hb).owns h.o (fun _ _ hf => hf), h.s, h.b.trans (hb.mono h.z), Nat.le_trans h.z hb.size, fun j u c h1 h2 => ((h.i j u c h1 h2).kept hb).mono (Nat.le_refl _) hb.size, fun j hj q e => ⟨Nat.lt_of_lt_of_le (h.e j hj q e).1 hb.size, (h.e j hj q e).2⟩, h.d⟩
theorem Nvo.ext {w : World} {B : Nat} {wx : World} {v : Value} {L : List (Array Value)} {is is2 : List Tv} {E : Nat → Nat → Prop} (h : Nvo w B wx v L is E) (he : ∀ j, j < L.length → is2[j]? = is[j]?) : Nvo w B wx v L is2 E :=
  ⟨h.o, h.s, h.b, h.z, fun j u c h1 h2 => h.i j u c (by rw [← he j (List.getElem?_eq_some_iff.1 h2).1]; exact h1) h2, h.e, h.d⟩
theorem Nvo.app {w : World} {B : Nat} {wx wy : World} {v v' : Value} {L : List (Array Value)} {is : List Tv} {E : Nat → Nat → Prop} (h : Nvo w B wx v L is E) {c : Array Value} (hc : one13 c) (ho : wy.ownsRow B 55 13 v' (L.length + 1) (vfl L ++ c.toList)) (hg : wx.grownBy wy v.ownBlock) (hv : v'.ownBlock = v.ownBlock ∨ v'.ownBlock = some wx.heap.size)
    (En : Nat → Prop) (hE1 : ∀ q, En q → q < wx.heap.size ∧ v.ownBlock ≠ some q) (hE2 : ∀ j, j < L.length → ∀ q, E j q → ¬ En q) (hnew : ∀ u, is[L.length]? = some u → Noi wx B wx.heap.size En u c) : Nvo w B wy v' (L ++ [c]) is (fun j => if j = L.length then En else E j) := by
  have hk : Kp (fun q => v.ownBlock = some q) wx wy := (Kp.refl _ _).grown hg (fun k _ h => h)
  have hz := hk.size
  refine ⟨?_, ?_, h.b.grown hg h.z (fun g hg => (h.o.lt g hg).1), Nat.le_trans h.z hz, fun j u c' h1 h2 => ?_, fun j hj q e => ?_, fun i j hij hj q e => ?_⟩
  · rw [vfl_app, List.length_append]
    have e : vfl [c] = c.toList := by simp [vfl]
    rw [e]
    exact ho
  · intro d hd
    rcases List.mem_append.1 hd with hd | hd
    · exact h.s d hd
    · simp only [List.mem_singleton] at hd
      rw [hd]
      exact hc
  · rcases Nat.lt_or_ge j L.length with hj | hj
    · rw [List.getElem?_append_left hj] at h2
      have hne : ¬ j = L.length := by omega
      simp only [hne, if_false]
      exact ((h.i j u c' h1 h2).kp hk (fun q _ _ e hq => (h.e j hj q e).2 hq)).mono (Nat.le_refl _) hz
    · rw [List.getElem?_append_right hj] at h2
      have hj0 : j = L.length := by
        rcases Nat.eq_or_lt_of_le hj with e | e
        · exact e.symm
        · rw [List.getElem?_eq_none (by simp; omega)] at h2
          cases h2
      subst hj0
      simp at h2
      subst h2
      simp only [if_true]
      exact ((hnew u h1).kp hk (fun q _ _ e hq => (hE1 q e).2 hq)).mono (Nat.le_refl _) hz
  · have key : q < wx.heap.size ∧ v.ownBlock ≠ some q := by
      by_cases hjl : j = L.length
      · simp only [hjl, if_true] at e
        exact hE1 q e
      · simp only [hjl, if_false] at e
        rw [List.length_append] at hj
        exact h.e j (by simp at hj; omega) q e
    refine ⟨Nat.lt_of_lt_of_le key.1 hz, fun hq => ?_⟩
    rcases hv with hv | hv
    · exact key.2 (hv ▸ hq)
    · rw [hv] at hq
      injection hq with hq
      omega
  · rw [List.length_append] at hj
    simp at hj
    have hne : ¬ i = L.length := by omega
    simp only [hne, if_false] at e
    by_cases hjl : j = L.length
    · simp only [hjl, if_true]
      exact hE2 i (by omega) q e
    · simp only [hjl, if_false]
      exact h.d i j hij (by omega) q e
/-- What is asked of the function that remade is handed. -/
def AgainO (F : Nat) (R : Tv → Tv → Prop) (u : Tv) : Prop := ∀ (w : World) (c : Array Value), Tin w u c → tmuch u ≤ 6000000 → Calls Tryz.prog F #[.agg c] w fun e w' => ∃ c' s, e = .returned (.agg c') ∧ R u s ∧ Nor w' w.heap.size w'.heap.size s c' ∧ Below w.heap.size w w'
end
section
open Go.RowKit Go
set_option maxRecDepth 1000000 in
set_option maxHeartbeats 1000000 in
theorem remadeO_any (F : Nat) (eF : ∀ args w, (callFunc F args).run Tryz.prog w = .ok (.enter F args) w) (R : Tv → Tv → Prop) (t : Tv) (ih : ∀ u ∈ t.is, AgainO F R u) (w : World) (cs : Array Value) (ht : Tin w t cs) (hm : tmuch t ≤ 6000000) :
    Calls Tryz.prog 43 #[.agg cs, .func (.func F) #[] #[]] w fun e w' => ∃ c' js, e = .returned (.agg c') ∧ Mad R t.is js ∧ Nor w' w.heap.size w'.heap.size (t.wi js) c' ∧ Below w.heap.size w w' := by
  have hme := tmuch_eq t
  have HIH := hide ih
  have HKL : Hid (t.ks.length ≤ 6000000) := by show _ ≤ _; omega
  have hlen : t.is.length ≤ 6000000 := by have := tmuchL_len t.is; omega
  have HML : Hid (tmuchL t.is ≤ 6000000) := by show _ ≤ _; omega
  clear ih hme hm
  obtain ⟨vy, vk, vi, rfl, hy, hk, hv, hb⟩ := ht.parts
  have HY := hide hy
  have HK := hide hk
  have HBD := hide hb
  obtain ⟨⟨ay, cy, rfl, _, _⟩, _, _⟩ := hy
  obtain ⟨⟨ak, ck, rfl, _, _⟩, _, _⟩ := hk
  obtain ⟨⟨a, cap, rfl, _, hform⟩, hmax⟩ := hv
  have HF := hide hform
  clear ht hb hform
  have HW0 := hide (Rm.start w (vcs t (.slice ay t.y.length cy) (.slice ak t.ks.length ck) (.slice a t.is.length cap)))
  have HZ0 : Hid (((w.alloc (.cells (vcs t (.slice ay t.y.length cy) (.slice ak t.ks.length ck) (.slice a t.is.length cap)) 55)).alloc (.cells zv 55)).heap.size = w.heap.size + 2) := by show _ = _; simp
  generalize hcs : vcs t (.slice ay t.y.length cy) (.slice ak t.ks.length ck) (.slice a t.is.length cap) = cs at *
  have HCS := hide hcs
  have HCI : Hid (cs[12]? = some (.slice a t.is.length cap)) := by show _ = _; rw [← hcs]; rfl
  clear hcs
  have q12 := blk_cell (j := 12) HW0.out.p HCI.out
  unfold zv at q12 HW0 HZ0
  go_enter Tryz.func43, Tryz.ntmps43
  go_wp2_with fail
  generalize (w.alloc (.cells cs 55)).alloc (.cells #[.int .i64 0, .bool false, .bool false, .int .u64 0, .int .u64 0, .string ⟨#[]⟩, .slice none 0 0, .int .i64 0, .int .u64 0, .int .u64 0, .string ⟨#[]⟩, .slice none 0 0, .slice none 0 0] 55) = w2 at *
  clear q12
  have HL0 : Hid (Nvo w2 w2.heap.size w2 (.slice none 0 0) [] [] (fun _ _ => False)) := ⟨World.ownsRow_nil _ _ _ _, by simp, Below.refl _ _, Nat.le_refl _, fun j u c _ h => by simp at h, fun j _ _ h => False.elim h, fun _ _ _ _ _ h => False.elim h⟩
  generalize hB : w2.heap.size = B at *
  have HBe := hide hB
  clear hB
  go_loopw [5, 11] (fun vv ii wx => ∃ (i : Nat) (L : List (Array Value)) (js : List Tv) (E : Nat → Nat → Prop), i ≤ t.is.length ∧ ii = .int .i64 (i : Nat) ∧ Hid (L.length = i) ∧ Hid (js.length = i ∧ ∀ (j : Nat) (u s : Tv), t.is[j]? = some u → js[j]? = some s → R u s) ∧ Hid (Nvo w2 B wx vv L js E)) (fun _ ii _ => t.is.length - (intOf ii).toNat)
  case atStart => exact ⟨0, [], [], _, by omega, rfl, rfl, ⟨rfl, fun j u s _ h => by simp at h⟩, HL0⟩
  case round =>
    obtain ⟨i, L, js, E, hi, rfl, HLn, HJ, HL⟩ := hrel
    clear HL0
    by_cases hlt : i < t.is.length
    · as_aux_lemma =>
      have g1 : (i : Int) < (t.is.length : Int) := by omega
      obtain ⟨u, hu⟩ : ∃ u, t.is[i]? = some u := ⟨t.is[i], List.getElem?_eq_getElem hlt⟩
      obtain ⟨b, off, rfl, hcells⟩ := HF.out.resolve_left (fun h => by rw [h] at hlt; simp at hlt)
      obtain ⟨cu, hcu, hcc⟩ := hcells i u hu
      have hb2 : Below w2.heap.size w2 wr := by have e := HL.out.b; rw [← HBe.out] at e; exact e
      have hkb : ∀ p x, w.cell? p = some x → wr.cell? p = some x := fun p x h => keep_below hb2 _ _ (keep_below HW0.out.b _ _ h)
      have HCC : Hid (∀ j x, cu[j]? = some x → wr.cell? ⟨b, off + i * 13 + j, none⟩ = some x) := fun j x hx => hkb _ _ (hcc j x hx)
      have hmem := List.mem_of_getElem? hu
      have HSZ := hide hcu.size13
      have HA1 := hide hcu.all1
      have HIT := hide (itm_mk wr cu)
      have HG0 := hide (heap_alloc_new wr (.cells zv 55))
      have HIN : Hid ((Tryz.prog.info? 55).map (·.size) = some cu.size) := by show _ = _; rw [HSZ.out]; exact infoV
      have HZV : Hid (zv.size = cu.size) := by show _ = _; rw [HSZ.out]; rfl
      have HCA := hide (HIH.out u hmem _ cu ((hcu.move hkb).move (keep_below HIT.out.b)) (Nat.le_trans (tmuchL_mem hmem) HML.out))
      have HCX := hide HIT.out.cells
      have HU := hide hu
      clear hu hcells hcu hcc hmem hkb hb2
      obtain ⟨ax, cx, hvx⟩ : ∃ ax cx, u5 = .slice ax L.length cx := by
        rcases HL.out.o.2 with ⟨e, h0⟩ | ⟨g, c, cur, e, _⟩
        · exact ⟨none, 0, by rw [e, h0]⟩
        · exact ⟨_, c, e⟩
      subst hvx
      go_wp2_with (first
        | (refine wpList_valAt rfl rfl b (off + i * 13) cu rfl HSZ.out HCC.out ?_)
        | (refine wpList_storeRow rfl rfl wr.heap.size zv cu 55 rfl rfl HG0.out HIN.out HZV.out HA1.out ?_)
        | (refine wpList_valAt rfl rfl wr.heap.size 0 cu rfl HSZ.out HCX.out ?_))
      refine HCA.out.mono ?_
      rintro e w5 ⟨c, s, rfl, hrs, hlt5, hb5⟩
      have hi1 := HIT.out.b.size
      have hsz5 := hb5.size
      have HL5 := hide ((HL.out.next HIT.out.b).next hb5)
      have HC5 := hide hlt5
      have HO := hide hlt5.one
      have HQ : Hid (∀ q, (Value.slice ax L.length cx).ownBlock = some q → q < wr.heap.size) := fun q hq => (HL.out.o.lt q hq).2
      have HZ5 : Hid (B ≤ wr.heap.size) := HL.out.z
      have HQE : Hid (∀ j, j < L.length → ∀ q, E j q → q < wr.heap.size) := fun j hj q e => (HL.out.e j hj q e).1
      have HZ6 : Hid (wr.heap.size ≤ ((wr.alloc (.cells zv 55)).setRow wr.heap.size cu).heap.size) := hi1
      have HJ2 : Hid ((js ++ [s]).length = i + 1 ∧ ∀ (j : Nat) (u s' : Tv), t.is[j]? = some u → (js ++ [s])[j]? = some s' → R u s') := by
        refine ⟨by rw [List.length_append, HJ.out.1]; rfl, fun j u' s' h1 h2 => ?_⟩
        rcases Nat.lt_or_ge j js.length with hj | hj
        · rw [List.getElem?_append_left hj] at h2
          exact HJ.out.2 j u' s' h1 h2
        · rw [List.getElem?_append_right hj] at h2
          have hj0 : j - js.length = 0 := by
            rcases Nat.eq_zero_or_pos (j - js.length) with e | e
            · exact e
            · rw [List.getElem?_eq_none (by simp; omega)] at h2
              cases h2
          rw [hj0] at h2
          simp at h2
          subst h2
          have hji : j = i := by have := HJ.out.1; omega
          rw [hji, HU.out] at h1
          injection h1 with h1
          subst h1
          exact hrs
      clear hlt5 hb5 HL HCC HCA HCX HIT HG0 hrs hi1 hsz5
      have HL6 := hide (HL5.out.next (below_alloc4 w5 (.cells c 55)))
      have HC6 : Hid (Nor (w5.alloc (.cells c 55)) ((wr.alloc (.cells zv 55)).setRow wr.heap.size cu).heap.size w5.heap.size s c) := HC5.out.kept (below_alloc4 w5 _)
      have HG6 : Hid ((w5.alloc (.cells c 55)).heap[w5.heap.size]? = some (.cells c 55 (0, 0))) := heap_alloc_new w5 _
      have HS6 : Hid (w5.heap.size ≤ (w5.alloc (.cells c 55)).heap.size) := (below_alloc4 w5 (.cells c 55)).size
      have HLL : Hid (L.length < 1099511627) := by have := HLn.out; show _ < _; omega
      clear HL5 HC5
      go_wp2_with (first
        | (refine wpList_val1 rfl rfl c HO.out.1 rfl ?_)
        | (at_builtin; refine append_val rfl _ _ rfl B _ L.length (vfl L) rfl HL6.out.o w5.heap.size c HO.out rfl HG6.out HLL.out HL6.out.z ?_))
      intro v7 w7 ho7 hg7 hv7
      have HL7 : Hid (Nvo w2 B w7 v7 (L ++ [c]) (js ++ [s]) (fun j => if j = L.length then (fun q => ((wr.alloc (.cells zv 55)).setRow wr.heap.size cu).heap.size ≤ q ∧ q < w5.heap.size) else E j)) := by
        have h1 := HZ5.out
        have h2 := HZ6.out
        have h3 := HS6.out
        refine (HL6.out.ext (fun j hj => ?_)).app HO.out ho7 hg7 (by simpa using hv7) _ (fun q e => ⟨by omega, fun hq => by have := HQ.out q hq; omega⟩) (fun j hj q e en => by have := HQE.out j hj q e; omega) (fun u' hu' => ?_)
        · rw [List.getElem?_append_left (by rw [HJ.out.1, ← HLn.out]; exact hj)]
        · have e : L.length = js.length := by rw [HLn.out, HJ.out.1]
          rw [e] at hu'
          simp at hu'
          subst hu'
          exact ⟨Nos.base HC6.out (Nat.le_trans h1 h2), fun q e => ⟨by omega, by omega⟩⟩
      have HLn7 : Hid ((L ++ [c]).length = i + 1) := by show _ = _; rw [List.length_append, HLn.out]; rfl
      clear ho7 hg7 hv7 HL6 HC6 HG6
      go_wp2_with fail
      go_roundw
      case rel => exact ⟨i + 1, L ++ [c], js ++ [s], _, by omega, by go_num, HLn7, HJ2, HL7⟩
      case measure => simp [intOf]; omega
    · as_aux_lemma =>
      have hiL : i = t.is.length := by omega
      obtain ⟨ax, cx, hvx⟩ : ∃ ax cx, u5 = .slice ax t.is.length cx := by
        rcases HL.out.o.2 with ⟨e, h0⟩ | ⟨g, c, cur, e, _⟩
        · exact ⟨none, 0, by rw [e, ← hiL, ← HLn.out, h0]⟩
        · exact ⟨_, c, by rw [e, HLn.out, hiL]⟩
      subst hvx
      have hb3 : Below w2.heap.size w2 wr := by have e := HL.out.b; rw [← HBe.out] at e; exact e
      have HW3 := hide (HW0.out.next hb3)
      have HMD : Hid (Mad R t.is js) := ⟨by rw [HJ.out.1, hiL], HJ.out.2⟩
      have HLI : Hid (L.length = t.is.length) := by show _ = _; rw [HLn.out, hiL]
      have HCY : Hid (cs[6]? = some (.slice ay t.y.length cy)) := by show _ = _; rw [← HCS.out]; rfl
      have HOI : Hid (wr.ownsRow (w.heap.size + 2) 55 13 (.slice ax t.is.length cx) t.is.length (vfl L)) := by
        have e := HL.out.o
        rw [HZ0.out, HLI.out] at e
        exact e
      have HGI : Hid (∀ q, (Value.slice ax t.is.length cx).ownBlock = some q → w.heap.size + 2 ≤ q ∧ q < wr.heap.size) := fun q hq => HOI.out.lt q hq
      have HNI : Hid (∀ (j : Nat) (u : Tv) (c : Array Value), js[j]? = some u → L[j]? = some c → Noi wr (w.heap.size + 2) wr.heap.size (E j) u c) := fun j u c h1 h2 => by
        have e := HL.out.i j u c h1 h2
        rw [HZ0.out] at e
        exact e
      have HEE : Hid (∀ j, j < t.is.length → ∀ q, E j q → w.heap.size + 2 ≤ q ∧ q < wr.heap.size ∧ (Value.slice ax t.is.length cx).ownBlock ≠ some q) := fun j hj q e => by
        have hLj : j < L.length := by rw [HLI.out]; exact hj
        have hjj : j < js.length := by rw [HMD.out.n]; exact hj
        exact ⟨((HNI.out j _ _ (List.getElem?_eq_getElem hjj) (List.getElem?_eq_getElem hLj)).r q e).1, HL.out.e j hLj q e⟩
      have HED : Hid (∀ i j, i < j → j < t.is.length → ∀ q, E i q → ¬ E j q) := fun i j hij hj => HL.out.d i j hij (by rw [HLI.out]; exact hj)
      have H13 := hide HL.out.s
      clear HL HJ HLn hb3 hlt hi
      subst hiL
      have c6 := blk_cell (j := 6) HW3.out.p HCY.out
      have g1 : ¬ (t.is.length : Int) < (t.is.length : Int) := by omega
      go_wp2_with (at_builtin; refine append_bsl rfl _ _ rfl wr.heap.size _ 0 [] rfl (World.ownsRow_nil _ _ _ _) _ t.y rfl (HY.out.move (keep_below HW3.out.b)) ?b1 ?b2 ?_)
      case b1 => have := HBD.out.y; omega
      intro v4 w4 ho4 hg4
      have hb4 : Below wr.heap.size wr w4 := (Below.refl _ _).grown hg4 (Nat.le_refl _) (fun q hq => by cases hq)
      have hz3 := HW3.out.z
      have ho4' : w4.ownsRow wr.heap.size 5 1 v4 t.y.length (bv t.y) := by simpa using ho4
      clear ho4 hg4
      obtain ⟨ya, yc, hv4⟩ := own_slice ho4'
      subst hv4
      have hs4 := hb4.size
      have HGY : Hid (∀ q, (Value.slice ya t.y.length yc).ownBlock = some q → w.heap.size + 2 ≤ q ∧ q < w4.heap.size) := fun q hq => by have := ho4'.lt q hq; exact ⟨by omega, this.2⟩
      have HGYr : Hid (∀ q, (Value.slice ya t.y.length yc).ownBlock = some q → wr.heap.size ≤ q) := fun q hq => (ho4'.lt q hq).1
      have HY4 := hide (own_mono ho4' (show w.heap.size + 2 ≤ wr.heap.size by omega))
      have HI4 := hide ((Kp.of_below (S := fun _ => False) hb4).owns HOI.out (fun _ _ h => h))
      have HN4 : Hid (∀ (j : Nat) (u : Tv) (c : Array Value), js[j]? = some u → L[j]? = some c → Noi w4 (w.heap.size + 2) wr.heap.size (E j) u c) := fun j u c h1 h2 => (HNI.out j u c h1 h2).kept hb4
      have HS4 : Hid (wr.heap.size ≤ w4.heap.size) := hs4
      have HZ3 : Hid (w.heap.size + 2 ≤ wr.heap.size) := hz3
      have HW4 := hide (HW3.out.next hb4)
      clear ho4' hb4 HW3 hs4 hz3 HOI HNI c6
      have c6 := blk_cell (j := 6) HW4.out.p HCY.out
      have f6 := blk_frozen 6 HW4.out.p
      have hset := HW4.out.set 6 (.slice ya t.y.length yc)
      rw [← HCS.out, (setv t _ _ _ _).1] at hset
      have HW5 := hide hset.1
      have HY5 := hide (hset.2.owns HY4.out (fun q hq e => by have := HGY.out q hq; omega))
      have HI5 := hide (hset.2.owns HI4.out (fun q hq e => by have := HGI.out q hq; omega))
      have HN5 : Hid (∀ (j : Nat) (u : Tv) (c : Array Value), js[j]? = some u → L[j]? = some c → Noi (w4.setCell ⟨w.heap.size, 6, none⟩ (.slice ya t.y.length yc)) (w.heap.size + 2) wr.heap.size (E j) u c) := fun j u c h1 h2 => (HN4.out j u c h1 h2).kp hset.2 (fun q h3 _ _ e => by omega)
      have HS5 : Hid (wr.heap.size ≤ (w4.setCell ⟨w.heap.size, 6, none⟩ (.slice ya t.y.length yc)).heap.size ∧ w4.heap.size ≤ (w4.setCell ⟨w.heap.size, 6, none⟩ (.slice ya t.y.length yc)).heap.size) := ⟨Nat.le_trans HS4.out hset.2.size, hset.2.size⟩
      have c11 := blk_cell (j := 11) HW5.out.p rfl
      have HK5 := hide (HK.out.move (keep_below HW5.out.b))
      clear hset HW4 HY4 HI4 HN4 HCS
      go_wp2_with (at_builtin; refine append_ssl rfl _ _ rfl (w4.setCell ⟨w.heap.size, 6, none⟩ (.slice ya t.y.length yc)).heap.size _ 0 [] rfl (World.ownsRow_nil _ _ _ _) _ t.ks rfl HK5.out ?b3 ?b4 ?_)
      case b3 => have := HKL.out; omega
      case b4 => exact Nat.le_refl _
      intro v6 w6 ho6 hg6
      generalize w4.setCell ⟨w.heap.size, 6, none⟩ (.slice ya t.y.length yc) = w5 at *
      have hb6 : Below w5.heap.size w5 w6 := (Below.refl _ _).grown hg6 (Nat.le_refl _) (fun q hq => by cases hq)
      have hz5 := HW5.out.z
      have ho6' : w6.ownsRow w4.heap.size 9 1 v6 t.ks.length (sv t.ks) := by simpa using ho6
      clear ho6 hg6 c6 f6 c11
      obtain ⟨ka, kc, hv6⟩ := own_slice ho6'
      subst hv6
      have hs6 := hb6.size
      have HGK : Hid (∀ q, (Value.slice ka t.ks.length kc).ownBlock = some q → w.heap.size + 2 ≤ q ∧ q < w6.heap.size) := fun q hq => by have := ho6'.lt q hq; have := HS4.out; have := HZ3.out; exact ⟨by omega, by omega⟩
      have HGKr : Hid (∀ q, (Value.slice ka t.ks.length kc).ownBlock = some q → wr.heap.size ≤ q) := fun q hq => by have := ho6'.lt q hq; have := HS4.out; omega
      have HK6 := hide (own_mono ho6' (show w.heap.size + 2 ≤ w4.heap.size by have := HS4.out; have := HZ3.out; omega))
      have HY6 := hide ((Kp.of_below (S := fun _ => False) hb6).owns HY5.out (fun _ _ h => h))
      have HI6 := hide ((Kp.of_below (S := fun _ => False) hb6).owns HI5.out (fun _ _ h => h))
      have HN6 : Hid (∀ (j : Nat) (u : Tv) (c : Array Value), js[j]? = some u → L[j]? = some c → Noi w6 (w.heap.size + 2) wr.heap.size (E j) u c) := fun j u c h1 h2 => (HN5.out j u c h1 h2).kept hb6
      have HS6 : Hid (wr.heap.size ≤ w6.heap.size ∧ w4.heap.size ≤ w6.heap.size) := by have := HS5.out; exact ⟨by omega, by omega⟩
      have HW6 := hide (HW5.out.next hb6)
      have HKS := hide HK.out.size
      clear ho6' hb6 HW5 hs6 hz5 HI5 HN5 HY5 HK5
      have c11 := blk_cell (j := 11) HW6.out.p rfl
      have f11 := blk_frozen 11 HW6.out.p
      have hset := HW6.out.set 11 (.slice ka t.ks.length kc)
      rw [(setv t _ _ _ _).2.1] at hset
      have HW7 := hide hset.1
      have HY7 := hide (hset.2.owns HY6.out (fun q hq e => by have := HGY.out q hq; omega))
      have HK7 := hide (hset.2.owns HK6.out (fun q hq e => by have := HGK.out q hq; omega))
      have HI7 := hide (hset.2.owns HI6.out (fun q hq e => by have := HGI.out q hq; omega))
      have HN7 : Hid (∀ (j : Nat) (u : Tv) (c : Array Value), js[j]? = some u → L[j]? = some c → Noi (w6.setCell ⟨w.heap.size, 11, none⟩ (.slice ka t.ks.length kc)) (w.heap.size + 2) wr.heap.size (E j) u c) := fun j u c h1 h2 => (HN6.out j u c h1 h2).kp hset.2 (fun q h3 _ _ e => by omega)
      have HS7 : Hid (wr.heap.size ≤ (w6.setCell ⟨w.heap.size, 11, none⟩ (.slice ka t.ks.length kc)).heap.size ∧ w4.heap.size ≤ (w6.setCell ⟨w.heap.size, 11, none⟩ (.slice ka t.ks.length kc)).heap.size ∧ w6.heap.size ≤ (w6.setCell ⟨w.heap.size, 11, none⟩ (.slice ka t.ks.length kc)).heap.size) := ⟨Nat.le_trans HS6.out.1 hset.2.size, Nat.le_trans HS6.out.2 hset.2.size, hset.2.size⟩
      clear hset HW6 HY6 HI6 HN6 HK6
      have c12 := blk_cell (j := 12) HW7.out.p rfl
      have f12 := blk_frozen 12 HW7.out.p
      have hset := HW7.out.set 12 (.slice ax t.is.length cx)
      rw [(setv t _ _ _ _).2.2] at hset
      have HW9 := hide hset.1
      have HLT : Hid (Nor ((w6.setCell ⟨w.heap.size, 11, none⟩ (.slice ka t.ks.length kc)).setCell ⟨w.heap.size, 12, none⟩ (.slice ax t.is.length cx)) (w.heap.size + 2) (w6.setCell ⟨w.heap.size, 11, none⟩ (.slice ka t.ks.length kc)).heap.size (t.wi js) (vcs t (.slice ya t.y.length yc) (.slice ka t.ks.length kc) (.slice ax t.is.length cx))) := by
        have h5 := HS7.out
        have hjl : js.length = t.is.length := HMD.out.n
        refine Nos.mk _ (t.wi js) _ _ _ L E ⟨HBD.out.n, HBD.out.b, HBD.out.s, HBD.out.y, HBD.out.l, HBD.out.d⟩ HY.out.byte ?_ ?_ (Nat.le_trans HKL.out (by omega)) HKS.out ?_ (show js.length ≤ _ by omega) (show L.length = js.length by rw [HLI.out, hjl]) H13.out (fun q hq => by have := HGY.out q hq; exact ⟨by omega, by omega⟩) (fun q hq => by have := HGK.out q hq; exact ⟨by omega, by omega⟩) (fun q hq => by have := HGI.out q hq; exact ⟨by omega, by omega⟩) (fun i hi q e => ?_) (fun i j hij hj => HED.out i j hij (by rw [← hjl]; exact hj)) (fun i u c e1 e2 => ?_)
        · exact hset.2.owns HY7.out (fun q hq e => by have := HGY.out q hq; omega)
        · exact hset.2.owns HK7.out (fun q hq e => by have := HGK.out q hq; omega)
        · show World.ownsRow _ _ _ _ _ js.length _
          rw [hjl]
          exact hset.2.owns HI7.out (fun q hq e => by have := HGI.out q hq; omega)
        · have hi' : i < t.is.length := by rw [← hjl]; exact hi
          have he := HEE.out i hi' q e
          exact ⟨⟨he.1, by omega⟩, fun hq => by have := HGYr.out q hq; omega, fun hq => by have := HGKr.out q hq; omega, he.2.2⟩
        · exact ((HN7.out i u c e1 e2).kp hset.2 (fun q h5 h6 _ e => by omega)).n
      have HS9 : Hid ((w6.setCell ⟨w.heap.size, 11, none⟩ (.slice ka t.ks.length kc)).heap.size ≤ ((w6.setCell ⟨w.heap.size, 11, none⟩ (.slice ka t.ks.length kc)).setCell ⟨w.heap.size, 12, none⟩ (.slice ax t.is.length cx)).heap.size) := hset.2.size
      clear hset HW7 HY7 HK7 HI7 HN7
      have HXL : Hid (∀ j v, (vcs t (.slice ya t.y.length yc) (.slice ka t.ks.length kc) (.slice ax t.is.length cx))[j]? = some v → ((w6.setCell ⟨w.heap.size, 11, none⟩ (.slice ka t.ks.length kc)).setCell ⟨w.heap.size, 12, none⟩ (.slice ax t.is.length cx)).cell? ⟨w.heap.size, 0 + j, none⟩ = some v) := fun j v hv => by
        rw [Nat.zero_add]
        exact blk_cell HW9.out.p hv
      have HON := hide HLT.out.one
      have HONA : Hid ((vcs t (.slice ya t.y.length yc) (.slice ka t.ks.length kc) (.slice ax t.is.length cx)).all (·.oneCell') = true) := by
        show _ = _
        rw [Array.all_eq_true']
        intro u hu
        exact HON.out.2 u (by simpa using hu)
      have HIN : Hid ((Tryz.prog.info? 55).map (·.size) = some (vcs t (.slice ya t.y.length yc) (.slice ka t.ks.length kc) (.slice ax t.is.length cx)).size) := infoV
      have HR9 := hide HW9.out.r
      have HZV : Hid (zv.size = (vcs t (.slice ya t.y.length yc) (.slice ka t.ks.length kc) (.slice ax t.is.length cx)).size) := rfl
      go_wp2_with (first
        | (refine wpList_valAt rfl rfl w.heap.size 0 (vcs t (.slice ya t.y.length yc) (.slice ka t.ks.length kc) (.slice ax t.is.length cx)) rfl rfl HXL.out ?_)
        | (refine wpList_storeRow rfl rfl (w.heap.size + 1) zv (vcs t (.slice ya t.y.length yc) (.slice ka t.ks.length kc) (.slice ax t.is.length cx)) 55 rfl rfl HR9.out HIN.out HZV.out HONA.out ?_))
      have hkr := row_kp ((w6.setCell ⟨w.heap.size, 11, none⟩ (.slice ka t.ks.length kc)).setCell ⟨w.heap.size, 12, none⟩ (.slice ax t.is.length cx)) (w.heap.size + 1) (vcs t (.slice ya t.y.length yc) (.slice ka t.ks.length kc) (.slice ax t.is.length cx))
      have hzr := hkr.size
      have h89 := HS9.out
      exact bodyPost_ret (end_rm rfl (row_same HR9.out) rfl) rfl ⟨_, js, rfl, HMD.out, (HLT.out.kp hkr (fun q h1 h2 e => by omega)).mono (by omega) (by omega), HW9.out.b.trans (hkr.below HW9.out.b.size (fun q e => by omega))⟩
end
section
open Go.RowKit Go
/-- The same fields but for keys and items. -/
structure Top (t z : Tv) : Prop where
  k : z.k = t.k
  f : z.f = t.f
  g : z.g = t.g
  n : z.n = t.n
  b : z.b = t.b
  s : z.s = t.s
  y : z.y = t.y
  l : z.l = t.l
/-- A value told again, sorted: every map's entries in keys' order. -/
inductive SrtR : Tv → Tv → Prop
  | rest (t s : Tv) (h9 : t.k ≠ 9) (ht : Top t s) (hk : s.ks = t.ks) (hn : s.is.length = t.is.length) (hi : ∀ (i : Nat) (u v : Tv), t.is[i]? = some u → s.is[i]? = some v → SrtR u v) : SrtR t s
  | map (t s : Tv) (ps : List Nat) (h9 : t.k = 9) (ht : Top t s) (hp : Srp t.ks (min t.ks.length t.is.length) ps) (hk : s.ks = pickS t.ks ps) (hn : s.is.length = ps.length) (hi : ∀ (i p : Nat) (u v : Tv), ps[i]? = some p → t.is[p]? = some u → s.is[i]? = some v → SrtR u v) : SrtR t s
/-- The items at these places. -/
def zt : Tv := .mk 0 false false 0 0 ⟨#[]⟩ [] ⟨0, 0, 0, []⟩ [] []
def pickT (js : List Tv) (ps : List Nat) : List Tv := ps.map fun p => js.getD p zt
def Tv.wp (t : Tv) (js : List Tv) (ps : List Nat) : Tv := .mk t.k t.f t.g t.n t.b t.s t.y t.l (pickS t.ks ps) (pickT js ps)
theorem pickT_get {js : List Tv} {ps : List Nat} {i p : Nat} (hp : ps[i]? = some p) (hl : p < js.length) : (pickT js ps)[i]? = js[p]? := by
  simp [pickT, hp, List.getD, List.getElem?_eq_getElem hl]
theorem pickL_get {L : List (Array Value)} {ps : List Nat} {i p : Nat} (hp : ps[i]? = some p) (hl : p < L.length) : (pickL L ps)[i]? = L[p]? := by
  simp [pickL, hp, List.getD, List.getElem?_eq_getElem hl]
theorem pickS_mem {ks : List ByteArray} {ps : List Nat} {s : ByteArray} (h : s ∈ pickS ks ps) (hl : ∀ p ∈ ps, p < ks.length) : s ∈ ks := by
  obtain ⟨p, hp, rfl⟩ := List.mem_map.1 h
  have := hl p hp
  simp [List.getD, List.getElem?_eq_getElem this]
/-- A sorted map in new memory. -/
theorem ntv_pick {wx w5 : World} {lo g3 hi : Nat} {t : Tv} {js : List Tv} {ps : List Nat} {L : List (Array Value)} {vy vA vB : Value} (hbd : Tbd t) (hyb : ∀ x ∈ t.y, x < 256) (hy : wx.ownsRow lo 5 1 vy t.y.length (bv t.y)) (hgy : ∀ q, vy.ownBlock = some q → q < hi)
    (hA : wx.ownsRow lo 9 1 vA ps.length (sv (pickS t.ks ps))) (hgA : ∀ q, vA.ownBlock = some q → q < hi) (hB : wx.ownsRow lo 55 13 vB ps.length (vfl (pickL L ps))) (hgB : ∀ q, vB.ownBlock = some q → q < hi) (hpl : ps.length ≤ 6000000) (hks : ∀ s ∈ t.ks, s.size ≤ 140737488351232) (hpk : ∀ p ∈ ps, p < t.ks.length) (hpj : ∀ p ∈ ps, p < js.length)
    (hL : L.length = js.length) (h13 : ∀ c ∈ L, c.size = 13) (hk : Kp (fun q => q = g3) w5 wx) (hcs : ∀ (i : Nat) (u : Tv) (c : Array Value), js[i]? = some u → L[i]? = some c → Ntv w5 lo g3 u c) (hgh : g3 ≤ hi) : Ntv wx lo hi (t.wp js ps) (vcs t vy vA vB) := by
  refine Ntv.mk (t.wp js ps) vy vA vB (pickL L ps) ⟨hbd.n, hbd.b, hbd.s, hbd.y, hbd.l, hbd.d⟩ hyb hy hgy ?_ hgA ?_ ?_ ?_ hgB ?_ ?_ ?_ ?_
  · show World.ownsRow _ _ _ _ _ (pickS t.ks ps).length _
    rw [pickS_len]
    exact hA
  · show (pickS t.ks ps).length ≤ _
    rw [pickS_len]
    omega
  · intro s hs
    exact hks s (pickS_mem hs hpk)
  · show World.ownsRow _ _ _ _ _ (pickT js ps).length _
    have e : (pickT js ps).length = ps.length := by simp [pickT]
    rw [e]
    exact hB
  · show (pickT js ps).length ≤ _
    have e : (pickT js ps).length = ps.length := by simp [pickT]
    omega
  · show (pickL L ps).length = (pickT js ps).length
    simp [pickL, pickT]
  · intro c hc
    obtain ⟨p, hp, rfl⟩ := List.mem_map.1 hc
    have := hpj p hp
    exact h13 _ (by simp [List.getD, List.getElem?_eq_getElem (show p < L.length by omega)])
  · intro i u c h1 h2
    have hi : i < ps.length := by
      have := (List.getElem?_eq_some_iff.1 h2).1
      rw [pickL_len] at this
      exact this
    have hp : ps[i]? = some ps[i] := List.getElem?_eq_getElem hi
    have hm := hpj _ (List.mem_of_getElem? hp)
    have h1' : (pickT js ps)[i]? = some u := h1
    rw [pickT_get hp hm] at h1'
    rw [pickL_get hp (by omega)] at h2
    exact ((hcs _ u c h1' h2).kp hk (fun q _ h e => by omega)).mono (Nat.le_refl _) hgh
theorem srt_pick {t : Tv} {js : List Tv} {ps : List Nat} (hk9 : t.k = 9) (hmd : Mad SrtR t.is js) (hsp : Srp t.ks (min t.ks.length t.is.length) ps) : SrtR t (t.wp js ps) :=
  SrtR.map t (t.wp js ps) ps hk9 ⟨rfl, rfl, rfl, rfl, rfl, rfl, rfl, rfl⟩ hsp rfl (by simp [Tv.wp, Tv.is, pickT]) fun i p u v hp hu hv => by
    have := hsp.lt p (List.mem_of_getElem? hp)
    have := hmd.n
    have e : (pickT js ps)[i]? = some v := hv
    rw [pickT_get hp (by omega)] at e
    exact hmd.r p u v hu e
theorem end_so {wx : World} {R : Nat} {c : Array Value} {tmps : Array Value} (hn : c.size = 13) (hr : wx.heap[R]? = some (.cells c 55 (0, 0))) (hp : tmps.getD 2 undef = .pointer (some ⟨R, 0, none⟩)) : (results Tryz.f20 tmps).run Tryz.prog wx = .ok (.agg c) wx := by
  refine (results_one (p := 2) (ty := 55) rfl _ _ _).trans ?_
  rw [hp]
  have h1 := run_loadVar_row (P := Tryz.prog) wx R 55 55 c (0, 0) _ hr Tryz.underlying55 rfl (by rw [hn]; exact infoV)
  simp [asAddr, h1, Result.andThen]
set_option maxRecDepth 1000000 in
set_option maxHeartbeats 1000000 in
theorem sorted_step (t : Tv) (ih : ∀ u ∈ t.is, AgainC 20 SrtR u) : AgainC 20 SrtR t := by
  intro w cs ht hm
  have eF : ∀ args w, (callFunc 20 args).run Tryz.prog w = .ok (.enter 20 args) w := enters_of Tryz.func20 (by kernel_rfl) rfl
  have HIH := hide ih
  have HTN := hide ht
  have hme := tmuch_eq t
  have HKL : Hid (t.ks.length ≤ 6000000) := by show _ ≤ _; omega
  have HMM := hide hm
  have HSZ := hide ht.size13
  have HK0 : Hid (cs[0]? = some (.int .i64 t.k)) := by
    obtain ⟨vy, vk, vi, rfl, _⟩ := ht.parts
    exact rfl
  clear ih ht hm hme
  have HW0 := hide (Rm.start w cs)
  have HZ0 : Hid (((w.alloc (.cells cs 55)).alloc (.cells zv 55)).heap.size = w.heap.size + 2) := by show _ = _; simp
  have HCB : Hid (∀ j u, cs[j]? = some u → ((w.alloc (.cells cs 55)).alloc (.cells zv 55)).cell? ⟨w.heap.size, 0 + j, none⟩ = some u) := fun j u hu => by rw [Nat.zero_add]; exact blk_cell HW0.out.p hu
  unfold zv at HW0 HZ0 HCB
  go_enter Tryz.func20, Tryz.ntmps20
  go_wp2_with (refine wpList_valAt rfl rfl w.heap.size 0 cs rfl HSZ.out HCB.out ?_)
  generalize (w.alloc (.cells cs 55)).alloc (.cells #[.int .i64 0, .bool false, .bool false, .int .u64 0, .int .u64 0, .string ⟨#[]⟩, .slice none 0 0, .int .i64 0, .int .u64 0, .int .u64 0, .string ⟨#[]⟩, .slice none 0 0, .slice none 0 0] 55) = w2 at *
  refine (remade_any 20 eF SrtR t HIH.out w2 cs (HTN.out.move (keep_below HW0.out.b)) HMM.out).mono ?_
  rintro e w3 ⟨c, js, rfl, hmd, hnt, hb3⟩
  have HMD := hide hmd
  have HW3 := hide (HW0.out.next hb3)
  have HNT : Hid (Ntv w3 (w.heap.size + 2) w3.heap.size (t.wi js) c) := hnt.mono (by rw [HZ0.out]; omega) (Nat.le_refl _)
  have HA1 := hide hnt.tin.all1
  have HS1 := hide hnt.size
  clear hmd hnt hb3 HW0 HCB HZ0
  have HIT := hide (itm_mk w3 c)
  have HG0 := hide (heap_alloc_new w3 (.cells zv 55))
  have HIN : Hid ((Tryz.prog.info? 55).map (·.size) = some c.size) := by show _ = _; rw [HS1.out]; exact infoV
  have HZV : Hid (zv.size = c.size) := by show _ = _; rw [HS1.out]; rfl
  have HW4 := hide (HW3.out.next HIT.out.b)
  have HN4 := hide (HNT.out.kept HIT.out.b)
  have q0 := blk_cell (j := 0) HW4.out.p HK0.out
  unfold zv at q0
  by_cases hk9 : t.k = 9
  · have g9 : (t.k == 9) = true := by rw [hk9]; rfl
    have HCX : Hid (∀ j u, cs[j]? = some u → ((w3.alloc (.cells zv 55)).setRow w3.heap.size c).cell? ⟨w.heap.size, 0 + j, none⟩ = some u) := fun j u hu => by rw [Nat.zero_add]; exact blk_cell HW4.out.p hu
    go_wp2_with (first
      | (refine wpList_storeRow rfl rfl w3.heap.size zv c 55 rfl rfl HG0.out HIN.out HZV.out HA1.out ?_)
      | (refine wpList_valAt rfl rfl w.heap.size 0 cs rfl HSZ.out HCX.out ?_))
    refine (order6_any t _ cs (HTN.out.move (keep_below HW4.out.b)) (by have := HKL.out; omega)).mono ?_
    rintro e w5 ⟨vp, ps, rfl, hpo, hsrp, hop, hb5⟩
    clear hpo
    have HW5 := hide (HW4.out.next hb5)
    have HN5 := hide (HN4.out.kept hb5)
    have HR5 : Hid (w5.heap[w3.heap.size]? = some (.cells c 55 (0, 0))) := (hb5.block _ (blk_lt HIT.out.r)).trans HIT.out.r
    have HZ5 : Hid (w3.heap.size < w5.heap.size) := blk_lt HR5.out
    have HSP := hide hsrp
    have hpl : ps.length ≤ 6000000 := by have := hsrp.len; have := HKL.out; omega
    have HIS := hide (ISl.own hop rfl (by omega))
    obtain ⟨pa, pc, hvp⟩ := own_slice hop
    subst hvp
    clear hop hsrp hb5 HW4 HN4 HIT HG0 q0 HCX HZV HIN
    have HNk := hide HN5.out
    generalize htj : t.wi js = tj at HNk
    obtain ⟨_, vy, vk, vi, L, hbd, hyb, hy, hgy, hk, hgk, hkl, hks, hv, hgi, hil, hL, h13, hcs⟩ := HNk.out
    subst htj
    obtain ⟨ya, yc, hvy⟩ := own_slice hy
    obtain ⟨ka, kc, hvk⟩ := own_slice hk
    obtain ⟨ia, ic, hvi⟩ := own_slice hv
    subst hvy hvk hvi
    have HO1 : Hid (∀ c ∈ L, one13 c) := fun c hc => by
      obtain ⟨i, hi, e⟩ := List.getElem_of_mem hc
      have h1 : L[i]? = some c := by rw [List.getElem?_eq_getElem hi, e]
      exact (hcs i _ c (List.getElem?_eq_getElem (show i < js.length by have : L.length = js.length := hL; omega)) h1).one
    have HP1 : Hid (∀ wx, Below w5.heap.size w5 wx → Calls Tryz.prog 45 #[.slice ka t.ks.length kc, .slice pa ps.length pc] wx fun e w' => ∃ v', e = .returned v' ∧ w'.ownsRow wx.heap.size 9 1 v' ps.length (sv (pickS t.ks ps)) ∧ Below wx.heap.size wx w') := fun wx hb => pickedS_any wx _ _ t.ks ps ((SSl.own hk rfl hkl hks).move (keep_below hb)) (HIS.out.move (keep_below hb)) (fun p hp => by have := HSP.out.lt p hp; omega) hpl
    have HP2 : Hid (∀ wx, Below w5.heap.size w5 wx → Calls Tryz.prog 46 #[.slice ia js.length ic, .slice pa ps.length pc] wx fun e w' => ∃ v', e = .returned v' ∧ w'.ownsRow wx.heap.size 55 13 v' ps.length (vfl (pickL L ps)) ∧ Below wx.heap.size wx w') := fun wx hb => pickedV_any wx _ _ L ps _ (by rw [hL]; exact (Kp.of_below (S := fun _ => False) hb).owns hv (fun _ _ h => h)) HO1.out (HIS.out.move (keep_below hb)) (fun p hp => by have := HSP.out.lt p hp; have : L.length = js.length := hL; have := HMD.out.n; omega) hpl
    have HRB : Hid (∀ wx, Below w5.heap.size w5 wx → wx.heap[w3.heap.size]? = some (.cells (vcs (t.wi js) (.slice ya (t.wi js).y.length yc) (.slice ka (t.wi js).ks.length kc) (.slice ia (t.wi js).is.length ic)) 55 (0, 0))) := fun wx hb => (hb.block _ HZ5.out).trans HR5.out
    have HBD := hide hbd
    have HYB := hide hyb
    have HYO := hide hy
    have HYG := hide hgy
    have HKSZ := hide hks
    have HCS := hide hcs
    have HLL := hide hL
    have H13 := hide h13
    clear hbd hyb hy hgy hk hgk hkl hks hv hgi hil hL h13 hcs HNk
    have c11 : w5.cell? ⟨w3.heap.size, 11, none⟩ = some (.slice ka t.ks.length kc) := blk_cell HR5.out rfl
    have c12 : w5.cell? ⟨w3.heap.size, 12, none⟩ = some (.slice ia js.length ic) := blk_cell HR5.out rfl
    generalize hg3 : w3.heap.size = g3 at *
    have HG3 := hide hg3
    clear hg3
    have HB0 : Hid (Below w5.heap.size w5 w5.drew) := by
      refine Below.drew ?_
      exact Below.refl _ _
    have c11d : w5.drew.cell? ⟨g3, 11, none⟩ = some (.slice ka t.ks.length kc) := c11
    have c12d : w5.drew.cell? ⟨g3, 12, none⟩ = some (.slice ia js.length ic) := c12
    go_wp2_with fail
    refine heldStart (S := fun _ => True) (by kernel_rfl) ?_
    have hS : True := trivial
    refine heldTake 0 _ rfl (by kernel_rfl) (by kernel_rfl) (by kernel_rfl) (fun _ _ _ h => h) rfl hS (fun wy hy => by first | (go_simp; done) | (go_simp; rfl) | rfl) ?_
    (try simp only [Act.put]); (try simp only [List.setIfInBounds_toArray, List.set_cons_zero, List.set_cons_succ])
    refine heldTake 2 _ rfl (by kernel_rfl) (by kernel_rfl) (by kernel_rfl) (fun _ _ _ h => h) rfl hS (fun wy hy => by first | (go_simp; done) | (go_simp; rfl) | rfl) ?_
    (try simp only [Act.put]); (try simp only [List.setIfInBounds_toArray, List.set_cons_zero, List.set_cons_succ])
    refine heldTake 4 _ rfl (by kernel_rfl) (by kernel_rfl) (by kernel_rfl) (fun _ _ _ h => h) rfl hS (fun wy hy => by first | (go_simp; done) | (go_simp; rfl) | rfl) ?_
    (try simp only [Act.put]); (try simp only [List.setIfInBounds_toArray, List.set_cons_zero, List.set_cons_succ])
    refine heldTake 6 _ rfl (by kernel_rfl) (by kernel_rfl) (by kernel_rfl) (fun _ _ _ h => h) rfl hS (fun wy hy => by first | (go_simp; done) | (go_simp; rfl) | rfl) ?_
    (try simp only [Act.put]); (try simp only [List.setIfInBounds_toArray, List.set_cons_zero, List.set_cons_succ])
    refine wpAnyH_ready (rs := [1, 5]) (by kernel_rfl) (by simp) ?_
    refine AllReadyH.cons rfl (fun K hK => ?_) (AllReadyH.cons rfl (fun K hK => ?_) AllReadyH.nil)
    · go_simp
      refine (Shut.out hK) _ _ trivial (fun _ => ?_)
      clear hK K
      (try simp only [Act.put]); (try simp only [List.setIfInBounds_toArray, List.set_cons_zero, List.set_cons_succ])
      refine wpAnyH_ready (rs := [3, 5]) (by kernel_rfl) (by simp) ?_
      refine AllReadyH.cons rfl (fun K hK => ?_) (AllReadyH.cons rfl (fun K hK => ?_) AllReadyH.nil)
      · as_aux_lemma =>
        go_simp
        refine (HP1.out _ HB0.out).mono ?_
        rintro e wA ⟨vA, rfl, hoA, hbA⟩
        obtain ⟨kA, cA, hvA⟩ := own_slice hoA
        subst hvA
        have c12A : wA.cell? ⟨g3, 12, none⟩ = some (.slice ia js.length ic) := keep_below hbA _ _ c12d
        have hbA5 : Below w5.heap.size w5 wA := HB0.out.trans (hbA.mono HB0.out.size)
        refine (Shut.out hK) _ _ trivial (fun _ => ?_)
        clear hK K
        (try simp only [Act.put]); (try simp only [List.setIfInBounds_toArray, List.set_cons_zero, List.set_cons_succ])
        refine heldStep 5 rfl (by kernel_rfl) (fun K hK => ?_)
        go_simp
        refine (Hid.out hK) _ _ trivial (fun _ => ?_)
        clear hK K
        (try simp only [Act.put]); (try simp only [List.setIfInBounds_toArray, List.set_cons_zero, List.set_cons_succ])
        refine heldTake 8 _ rfl (by kernel_rfl) (by kernel_rfl) (by kernel_rfl) (fun _ _ _ h => h) rfl hS (fun wy hy => by first | (go_simp; done) | (go_simp; rfl) | rfl) ?_
        (try simp only [Act.put]); (try simp only [List.setIfInBounds_toArray, List.set_cons_zero, List.set_cons_succ])
        refine heldStep 7 rfl (by kernel_rfl) (fun K hK => ?_)
        go_simp
        refine (HP2.out _ hbA5).mono ?_
        rintro e wB ⟨vB, rfl, hoB, hbB⟩
        obtain ⟨kB, cB, hvB⟩ := own_slice hoB
        subst hvB
        refine (Hid.out hK) _ _ trivial (fun _ => ?_)
        clear hK K
        (try simp only [Act.put]); (try simp only [List.setIfInBounds_toArray, List.set_cons_zero, List.set_cons_succ])
        have hSB : (fun _ : World => True) wB := trivial
        have hb5B : Below w5.heap.size w5 wB := hbA5.trans (hbB.mono hbA5.size)
        have hzA := HB0.out.size
        have hzA2 := hbA.size
        have hzB := hbB.size
        have hRB := HRB.out wB hb5B
        have c11B := blk_cell (j := 11) hRB rfl
        have f11B := blk_frozen 11 hRB
        have hR1 := blk_set 11 (.slice kA ps.length cA) hRB
        have c12B : (wB.setCell ⟨g3, 11, none⟩ (.slice kA ps.length cA)).cell? ⟨g3, 12, none⟩ = some (.slice ia js.length ic) := blk_cell hR1 rfl
        have f12B := blk_frozen 12 hR1
        have hR2 := blk_set 12 (.slice kB ps.length cB) hR1
        have HR2 : Hid (((wB.setCell ⟨g3, 11, none⟩ (.slice kA ps.length cA)).setCell ⟨g3, 12, none⟩ (.slice kB ps.length cB)).heap[g3]? = some (.cells (vcs t (.slice ya t.y.length yc) (.slice kA ps.length cA) (.slice kB ps.length cB)) 55 (0, 0))) := hR2
        have hk1 : Kp (fun q => q = g3) wB (wB.setCell ⟨g3, 11, none⟩ (.slice kA ps.length cA)) := (Kp.refl _ _).setCell _ _ (fun _ => rfl)
        have hk2 : Kp (fun q => q = g3) wB ((wB.setCell ⟨g3, 11, none⟩ (.slice kA ps.length cA)).setCell ⟨g3, 12, none⟩ (.slice kB ps.length cB)) := hk1.setCell _ _ (fun _ => rfl)
        have hzs := hk2.size
        have HK2 := hide hk2
        have HOA : Hid (wB.ownsRow w5.heap.size 9 1 (.slice kA ps.length cA) ps.length (sv (pickS t.ks ps))) := own_mono ((Kp.of_below (S := fun _ => False) hbB).owns hoA (fun _ _ h => h)) hzA
        have HOB : Hid (wB.ownsRow w5.heap.size 55 13 (.slice kB ps.length cB) ps.length (vfl (pickL L ps))) := own_mono hoB (by omega)
        have HB5 := hide hb5B
        have HZS : Hid (w5.heap.size ≤ wB.heap.size ∧ wB.heap.size ≤ ((wB.setCell ⟨g3, 11, none⟩ (.slice kA ps.length cA)).setCell ⟨g3, 12, none⟩ (.slice kB ps.length cB)).heap.size) := ⟨hb5B.size, hzs⟩
        clear hRB hR1 hR2 hk1 hk2 hoA hoB hbA hbB hb5B hbA5 hzA hzA2 hzB hzs c11 c12 c11d c12d c12A
        refine heldStep 9 rfl (by kernel_rfl) (fun K hK => ?_)
        go_simp
        refine (Hid.out hK) _ _ trivial (fun _ => ?_)
        clear hK K
        (try simp only [Act.put]); (try simp only [List.setIfInBounds_toArray, List.set_cons_zero, List.set_cons_succ])
        refine heldTake 10 _ rfl (by kernel_rfl) (by kernel_rfl) (by kernel_rfl) (fun _ _ _ h => h) rfl hS (fun wy hy => by first | (go_simp; done) | (go_simp; rfl) | rfl) ?_
        (try simp only [Act.put]); (try simp only [List.setIfInBounds_toArray, List.set_cons_zero, List.set_cons_succ])
        refine heldStep 11 rfl (by kernel_rfl) (fun K hK => ?_)
        go_simp
        refine (Hid.out hK) _ _ trivial (fun _ => ?_)
        clear hK K
        (try simp only [Act.put]); (try simp only [List.setIfInBounds_toArray, List.set_cons_zero, List.set_cons_succ])
        refine heldDone (by kernel_rfl) ?_
        clear c11B f11B c12B f12B
        have hz := HZS.out
        have hg5 := HZ5.out
        have hg3 : w.heap.size + 2 ≤ g3 := by have := HW3.out.z; have := HG3.out; omega
        have HK5 : Hid (Kp (fun q => q = g3) w5 ((wB.setCell ⟨g3, 11, none⟩ (.slice kA ps.length cA)).setCell ⟨g3, 12, none⟩ (.slice kB ps.length cB))) := (Kp.of_below HB5.out).trans HK2.out (fun _ _ h => h)
        have HNT : Hid (Ntv ((wB.setCell ⟨g3, 11, none⟩ (.slice kA ps.length cA)).setCell ⟨g3, 12, none⟩ (.slice kB ps.length cB)) (w.heap.size + 2) ((wB.setCell ⟨g3, 11, none⟩ (.slice kA ps.length cA)).setCell ⟨g3, 12, none⟩ (.slice kB ps.length cB)).heap.size (t.wp js ps) (vcs t (.slice ya t.y.length yc) (.slice kA ps.length cA) (.slice kB ps.length cB))) := by
          refine ntv_pick ⟨HBD.out.n, HBD.out.b, HBD.out.s, HBD.out.y, HBD.out.l, HBD.out.d⟩ HYB.out ?_ ?_ ?_ ?_ ?_ ?_ hpl HKSZ.out (fun p hp => by have := HSP.out.lt p hp; omega) (fun p hp => by have := HSP.out.lt p hp; have := HMD.out.n; omega) HLL.out H13.out HK5.out HCS.out (by omega)
          · exact HK5.out.owns HYO.out (fun q hq e => by have := HYG.out q hq; omega)
          · intro q hq
            have := HYG.out q hq
            omega
          · exact own_mono (HK2.out.owns HOA.out (fun q hq e => by have := HOA.out.lt q hq; omega)) (by omega)
          · intro q hq
            have := HOA.out.lt q hq
            omega
          · exact own_mono (HK2.out.owns HOB.out (fun q hq e => by have := HOB.out.lt q hq; omega)) (by omega)
          · intro q hq
            have := HOB.out.lt q hq
            omega
        have HXL : Hid (∀ j v, (vcs t (.slice ya t.y.length yc) (.slice kA ps.length cA) (.slice kB ps.length cB))[j]? = some v → ((wB.setCell ⟨g3, 11, none⟩ (.slice kA ps.length cA)).setCell ⟨g3, 12, none⟩ (.slice kB ps.length cB)).cell? ⟨g3, 0 + j, none⟩ = some v) := fun j v hv => by
          rw [Nat.zero_add]
          exact blk_cell HR2.out hv
        have HONA := hide HNT.out.tin.all1
        have HIN : Hid ((Tryz.prog.info? 55).map (·.size) = some (vcs t (.slice ya t.y.length yc) (.slice kA ps.length cA) (.slice kB ps.length cB)).size) := infoV
        have HRR : Hid (((wB.setCell ⟨g3, 11, none⟩ (.slice kA ps.length cA)).setCell ⟨g3, 12, none⟩ (.slice kB ps.length cB)).heap[w.heap.size + 1]? = some (.cells zv 55 (0, 0))) := (HK5.out.block _ (by omega) (fun e => by omega)).trans HW5.out.r
        have HZV : Hid (zv.size = (vcs t (.slice ya t.y.length yc) (.slice kA ps.length cA) (.slice kB ps.length cB)).size) := rfl
        have HBF : Hid (Below w.heap.size w ((wB.setCell ⟨g3, 11, none⟩ (.slice kA ps.length cA)).setCell ⟨g3, 12, none⟩ (.slice kB ps.length cB))) := HW5.out.b.trans (HK5.out.below HW5.out.b.size (fun q e => by omega))
        clear hz hg5 hg3
        go_wp2_with (first
          | (refine wpList_valAt rfl rfl g3 0 (vcs t (.slice ya t.y.length yc) (.slice kA ps.length cA) (.slice kB ps.length cB)) rfl rfl HXL.out ?_)
          | (refine wpList_storeRow rfl rfl (w.heap.size + 1) zv (vcs t (.slice ya t.y.length yc) (.slice kA ps.length cA) (.slice kB ps.length cB)) 55 rfl rfl HRR.out HIN.out HZV.out HONA.out ?_))
        have hkr := row_kp ((wB.setCell ⟨g3, 11, none⟩ (.slice kA ps.length cA)).setCell ⟨g3, 12, none⟩ (.slice kB ps.length cB)) (w.heap.size + 1) (vcs t (.slice ya t.y.length yc) (.slice kA ps.length cA) (.slice kB ps.length cB))
        have hzr := hkr.size
        exact bodyPost_ret (end_so rfl (row_same HRR.out) rfl) rfl ⟨_, rfl, t.wp js ps, srt_pick hk9 HMD.out HSP.out, (HNT.out.kp hkr (fun q h1 h2 e => by omega)).mono (by omega) hzr, HBF.out.trans (hkr.below HBF.out.size (fun q e => by omega))⟩
      · as_aux_lemma =>
        go_simp
        refine (Shut.out hK) _ _ trivial (fun _ => ?_)
        clear hK K
        (try simp only [Act.put]); (try simp only [List.setIfInBounds_toArray, List.set_cons_zero, List.set_cons_succ])
        refine heldStep 3 rfl (by kernel_rfl) (fun K hK => ?_)
        go_simp
        refine (HP1.out _ HB0.out).mono ?_
        rintro e wA ⟨vA, rfl, hoA, hbA⟩
        obtain ⟨kA, cA, hvA⟩ := own_slice hoA
        subst hvA
        have c12A : wA.cell? ⟨g3, 12, none⟩ = some (.slice ia js.length ic) := keep_below hbA _ _ c12d
        have hbA5 : Below w5.heap.size w5 wA := HB0.out.trans (hbA.mono HB0.out.size)
        refine (Hid.out hK) _ _ trivial (fun _ => ?_)
        clear hK K
        (try simp only [Act.put]); (try simp only [List.setIfInBounds_toArray, List.set_cons_zero, List.set_cons_succ])
        refine heldTake 8 _ rfl (by kernel_rfl) (by kernel_rfl) (by kernel_rfl) (fun _ _ _ h => h) rfl hS (fun wy hy => by first | (go_simp; done) | (go_simp; rfl) | rfl) ?_
        (try simp only [Act.put]); (try simp only [List.setIfInBounds_toArray, List.set_cons_zero, List.set_cons_succ])
        refine heldStep 7 rfl (by kernel_rfl) (fun K hK => ?_)
        go_simp
        refine (HP2.out _ hbA5).mono ?_
        rintro e wB ⟨vB, rfl, hoB, hbB⟩
        obtain ⟨kB, cB, hvB⟩ := own_slice hoB
        subst hvB
        refine (Hid.out hK) _ _ trivial (fun _ => ?_)
        clear hK K
        (try simp only [Act.put]); (try simp only [List.setIfInBounds_toArray, List.set_cons_zero, List.set_cons_succ])
        have hSB : (fun _ : World => True) wB := trivial
        have hb5B : Below w5.heap.size w5 wB := hbA5.trans (hbB.mono hbA5.size)
        have hzA := HB0.out.size
        have hzA2 := hbA.size
        have hzB := hbB.size
        have hRB := HRB.out wB hb5B
        have c11B := blk_cell (j := 11) hRB rfl
        have f11B := blk_frozen 11 hRB
        have hR1 := blk_set 11 (.slice kA ps.length cA) hRB
        have c12B : (wB.setCell ⟨g3, 11, none⟩ (.slice kA ps.length cA)).cell? ⟨g3, 12, none⟩ = some (.slice ia js.length ic) := blk_cell hR1 rfl
        have f12B := blk_frozen 12 hR1
        have hR2 := blk_set 12 (.slice kB ps.length cB) hR1
        have HR2 : Hid (((wB.setCell ⟨g3, 11, none⟩ (.slice kA ps.length cA)).setCell ⟨g3, 12, none⟩ (.slice kB ps.length cB)).heap[g3]? = some (.cells (vcs t (.slice ya t.y.length yc) (.slice kA ps.length cA) (.slice kB ps.length cB)) 55 (0, 0))) := hR2
        have hk1 : Kp (fun q => q = g3) wB (wB.setCell ⟨g3, 11, none⟩ (.slice kA ps.length cA)) := (Kp.refl _ _).setCell _ _ (fun _ => rfl)
        have hk2 : Kp (fun q => q = g3) wB ((wB.setCell ⟨g3, 11, none⟩ (.slice kA ps.length cA)).setCell ⟨g3, 12, none⟩ (.slice kB ps.length cB)) := hk1.setCell _ _ (fun _ => rfl)
        have hzs := hk2.size
        have HK2 := hide hk2
        have HOA : Hid (wB.ownsRow w5.heap.size 9 1 (.slice kA ps.length cA) ps.length (sv (pickS t.ks ps))) := own_mono ((Kp.of_below (S := fun _ => False) hbB).owns hoA (fun _ _ h => h)) hzA
        have HOB : Hid (wB.ownsRow w5.heap.size 55 13 (.slice kB ps.length cB) ps.length (vfl (pickL L ps))) := own_mono hoB (by omega)
        have HB5 := hide hb5B
        have HZS : Hid (w5.heap.size ≤ wB.heap.size ∧ wB.heap.size ≤ ((wB.setCell ⟨g3, 11, none⟩ (.slice kA ps.length cA)).setCell ⟨g3, 12, none⟩ (.slice kB ps.length cB)).heap.size) := ⟨hb5B.size, hzs⟩
        clear hRB hR1 hR2 hk1 hk2 hoA hoB hbA hbB hb5B hbA5 hzA hzA2 hzB hzs c11 c12 c11d c12d c12A
        refine heldStep 9 rfl (by kernel_rfl) (fun K hK => ?_)
        go_simp
        refine (Hid.out hK) _ _ trivial (fun _ => ?_)
        clear hK K
        (try simp only [Act.put]); (try simp only [List.setIfInBounds_toArray, List.set_cons_zero, List.set_cons_succ])
        refine heldTake 10 _ rfl (by kernel_rfl) (by kernel_rfl) (by kernel_rfl) (fun _ _ _ h => h) rfl hS (fun wy hy => by first | (go_simp; done) | (go_simp; rfl) | rfl) ?_
        (try simp only [Act.put]); (try simp only [List.setIfInBounds_toArray, List.set_cons_zero, List.set_cons_succ])
        refine heldStep 11 rfl (by kernel_rfl) (fun K hK => ?_)
        go_simp
        refine (Hid.out hK) _ _ trivial (fun _ => ?_)
        clear hK K
        (try simp only [Act.put]); (try simp only [List.setIfInBounds_toArray, List.set_cons_zero, List.set_cons_succ])
        refine heldDone (by kernel_rfl) ?_
        clear c11B f11B c12B f12B
        have hz := HZS.out
        have hg5 := HZ5.out
        have hg3 : w.heap.size + 2 ≤ g3 := by have := HW3.out.z; have := HG3.out; omega
        have HK5 : Hid (Kp (fun q => q = g3) w5 ((wB.setCell ⟨g3, 11, none⟩ (.slice kA ps.length cA)).setCell ⟨g3, 12, none⟩ (.slice kB ps.length cB))) := (Kp.of_below HB5.out).trans HK2.out (fun _ _ h => h)
        have HNT : Hid (Ntv ((wB.setCell ⟨g3, 11, none⟩ (.slice kA ps.length cA)).setCell ⟨g3, 12, none⟩ (.slice kB ps.length cB)) (w.heap.size + 2) ((wB.setCell ⟨g3, 11, none⟩ (.slice kA ps.length cA)).setCell ⟨g3, 12, none⟩ (.slice kB ps.length cB)).heap.size (t.wp js ps) (vcs t (.slice ya t.y.length yc) (.slice kA ps.length cA) (.slice kB ps.length cB))) := by
          refine ntv_pick ⟨HBD.out.n, HBD.out.b, HBD.out.s, HBD.out.y, HBD.out.l, HBD.out.d⟩ HYB.out ?_ ?_ ?_ ?_ ?_ ?_ hpl HKSZ.out (fun p hp => by have := HSP.out.lt p hp; omega) (fun p hp => by have := HSP.out.lt p hp; have := HMD.out.n; omega) HLL.out H13.out HK5.out HCS.out (by omega)
          · exact HK5.out.owns HYO.out (fun q hq e => by have := HYG.out q hq; omega)
          · intro q hq
            have := HYG.out q hq
            omega
          · exact own_mono (HK2.out.owns HOA.out (fun q hq e => by have := HOA.out.lt q hq; omega)) (by omega)
          · intro q hq
            have := HOA.out.lt q hq
            omega
          · exact own_mono (HK2.out.owns HOB.out (fun q hq e => by have := HOB.out.lt q hq; omega)) (by omega)
          · intro q hq
            have := HOB.out.lt q hq
            omega
        have HXL : Hid (∀ j v, (vcs t (.slice ya t.y.length yc) (.slice kA ps.length cA) (.slice kB ps.length cB))[j]? = some v → ((wB.setCell ⟨g3, 11, none⟩ (.slice kA ps.length cA)).setCell ⟨g3, 12, none⟩ (.slice kB ps.length cB)).cell? ⟨g3, 0 + j, none⟩ = some v) := fun j v hv => by
          rw [Nat.zero_add]
          exact blk_cell HR2.out hv
        have HONA := hide HNT.out.tin.all1
        have HIN : Hid ((Tryz.prog.info? 55).map (·.size) = some (vcs t (.slice ya t.y.length yc) (.slice kA ps.length cA) (.slice kB ps.length cB)).size) := infoV
        have HRR : Hid (((wB.setCell ⟨g3, 11, none⟩ (.slice kA ps.length cA)).setCell ⟨g3, 12, none⟩ (.slice kB ps.length cB)).heap[w.heap.size + 1]? = some (.cells zv 55 (0, 0))) := (HK5.out.block _ (by omega) (fun e => by omega)).trans HW5.out.r
        have HZV : Hid (zv.size = (vcs t (.slice ya t.y.length yc) (.slice kA ps.length cA) (.slice kB ps.length cB)).size) := rfl
        have HBF : Hid (Below w.heap.size w ((wB.setCell ⟨g3, 11, none⟩ (.slice kA ps.length cA)).setCell ⟨g3, 12, none⟩ (.slice kB ps.length cB))) := HW5.out.b.trans (HK5.out.below HW5.out.b.size (fun q e => by omega))
        clear hz hg5 hg3
        go_wp2_with (first
          | (refine wpList_valAt rfl rfl g3 0 (vcs t (.slice ya t.y.length yc) (.slice kA ps.length cA) (.slice kB ps.length cB)) rfl rfl HXL.out ?_)
          | (refine wpList_storeRow rfl rfl (w.heap.size + 1) zv (vcs t (.slice ya t.y.length yc) (.slice kA ps.length cA) (.slice kB ps.length cB)) 55 rfl rfl HRR.out HIN.out HZV.out HONA.out ?_))
        have hkr := row_kp ((wB.setCell ⟨g3, 11, none⟩ (.slice kA ps.length cA)).setCell ⟨g3, 12, none⟩ (.slice kB ps.length cB)) (w.heap.size + 1) (vcs t (.slice ya t.y.length yc) (.slice kA ps.length cA) (.slice kB ps.length cB))
        have hzr := hkr.size
        exact bodyPost_ret (end_so rfl (row_same HRR.out) rfl) rfl ⟨_, rfl, t.wp js ps, srt_pick hk9 HMD.out HSP.out, (HNT.out.kp hkr (fun q h1 h2 e => by omega)).mono (by omega) hzr, HBF.out.trans (hkr.below HBF.out.size (fun q e => by omega))⟩
    · as_aux_lemma =>
      go_simp
      refine (Shut.out hK) _ _ trivial (fun _ => ?_)
      clear hK K
      (try simp only [Act.put]); (try simp only [List.setIfInBounds_toArray, List.set_cons_zero, List.set_cons_succ])
      refine heldStep 1 rfl (by kernel_rfl) (fun K hK => ?_)
      go_simp
      refine (Hid.out hK) _ _ trivial (fun _ => ?_)
      clear hK K
      (try simp only [Act.put]); (try simp only [List.setIfInBounds_toArray, List.set_cons_zero, List.set_cons_succ])
      refine heldStep 3 rfl (by kernel_rfl) (fun K hK => ?_)
      go_simp
      refine (HP1.out _ HB0.out).mono ?_
      rintro e wA ⟨vA, rfl, hoA, hbA⟩
      obtain ⟨kA, cA, hvA⟩ := own_slice hoA
      subst hvA
      have c12A : wA.cell? ⟨g3, 12, none⟩ = some (.slice ia js.length ic) := keep_below hbA _ _ c12d
      have hbA5 : Below w5.heap.size w5 wA := HB0.out.trans (hbA.mono HB0.out.size)
      refine (Hid.out hK) _ _ trivial (fun _ => ?_)
      clear hK K
      (try simp only [Act.put]); (try simp only [List.setIfInBounds_toArray, List.set_cons_zero, List.set_cons_succ])
      refine heldTake 8 _ rfl (by kernel_rfl) (by kernel_rfl) (by kernel_rfl) (fun _ _ _ h => h) rfl hS (fun wy hy => by first | (go_simp; done) | (go_simp; rfl) | rfl) ?_
      (try simp only [Act.put]); (try simp only [List.setIfInBounds_toArray, List.set_cons_zero, List.set_cons_succ])
      refine heldStep 7 rfl (by kernel_rfl) (fun K hK => ?_)
      go_simp
      refine (HP2.out _ hbA5).mono ?_
      rintro e wB ⟨vB, rfl, hoB, hbB⟩
      obtain ⟨kB, cB, hvB⟩ := own_slice hoB
      subst hvB
      refine (Hid.out hK) _ _ trivial (fun _ => ?_)
      clear hK K
      (try simp only [Act.put]); (try simp only [List.setIfInBounds_toArray, List.set_cons_zero, List.set_cons_succ])
      have hSB : (fun _ : World => True) wB := trivial
      have hb5B : Below w5.heap.size w5 wB := hbA5.trans (hbB.mono hbA5.size)
      have hzA := HB0.out.size
      have hzA2 := hbA.size
      have hzB := hbB.size
      have hRB := HRB.out wB hb5B
      have c11B := blk_cell (j := 11) hRB rfl
      have f11B := blk_frozen 11 hRB
      have hR1 := blk_set 11 (.slice kA ps.length cA) hRB
      have c12B : (wB.setCell ⟨g3, 11, none⟩ (.slice kA ps.length cA)).cell? ⟨g3, 12, none⟩ = some (.slice ia js.length ic) := blk_cell hR1 rfl
      have f12B := blk_frozen 12 hR1
      have hR2 := blk_set 12 (.slice kB ps.length cB) hR1
      have HR2 : Hid (((wB.setCell ⟨g3, 11, none⟩ (.slice kA ps.length cA)).setCell ⟨g3, 12, none⟩ (.slice kB ps.length cB)).heap[g3]? = some (.cells (vcs t (.slice ya t.y.length yc) (.slice kA ps.length cA) (.slice kB ps.length cB)) 55 (0, 0))) := hR2
      have hk1 : Kp (fun q => q = g3) wB (wB.setCell ⟨g3, 11, none⟩ (.slice kA ps.length cA)) := (Kp.refl _ _).setCell _ _ (fun _ => rfl)
      have hk2 : Kp (fun q => q = g3) wB ((wB.setCell ⟨g3, 11, none⟩ (.slice kA ps.length cA)).setCell ⟨g3, 12, none⟩ (.slice kB ps.length cB)) := hk1.setCell _ _ (fun _ => rfl)
      have hzs := hk2.size
      have HK2 := hide hk2
      have HOA : Hid (wB.ownsRow w5.heap.size 9 1 (.slice kA ps.length cA) ps.length (sv (pickS t.ks ps))) := own_mono ((Kp.of_below (S := fun _ => False) hbB).owns hoA (fun _ _ h => h)) hzA
      have HOB : Hid (wB.ownsRow w5.heap.size 55 13 (.slice kB ps.length cB) ps.length (vfl (pickL L ps))) := own_mono hoB (by omega)
      have HB5 := hide hb5B
      have HZS : Hid (w5.heap.size ≤ wB.heap.size ∧ wB.heap.size ≤ ((wB.setCell ⟨g3, 11, none⟩ (.slice kA ps.length cA)).setCell ⟨g3, 12, none⟩ (.slice kB ps.length cB)).heap.size) := ⟨hb5B.size, hzs⟩
      clear hRB hR1 hR2 hk1 hk2 hoA hoB hbA hbB hb5B hbA5 hzA hzA2 hzB hzs c11 c12 c11d c12d c12A
      refine heldStep 9 rfl (by kernel_rfl) (fun K hK => ?_)
      go_simp
      refine (Hid.out hK) _ _ trivial (fun _ => ?_)
      clear hK K
      (try simp only [Act.put]); (try simp only [List.setIfInBounds_toArray, List.set_cons_zero, List.set_cons_succ])
      refine heldTake 10 _ rfl (by kernel_rfl) (by kernel_rfl) (by kernel_rfl) (fun _ _ _ h => h) rfl hS (fun wy hy => by first | (go_simp; done) | (go_simp; rfl) | rfl) ?_
      (try simp only [Act.put]); (try simp only [List.setIfInBounds_toArray, List.set_cons_zero, List.set_cons_succ])
      refine heldStep 11 rfl (by kernel_rfl) (fun K hK => ?_)
      go_simp
      refine (Hid.out hK) _ _ trivial (fun _ => ?_)
      clear hK K
      (try simp only [Act.put]); (try simp only [List.setIfInBounds_toArray, List.set_cons_zero, List.set_cons_succ])
      refine heldDone (by kernel_rfl) ?_
      clear c11B f11B c12B f12B
      have hz := HZS.out
      have hg5 := HZ5.out
      have hg3 : w.heap.size + 2 ≤ g3 := by have := HW3.out.z; have := HG3.out; omega
      have HK5 : Hid (Kp (fun q => q = g3) w5 ((wB.setCell ⟨g3, 11, none⟩ (.slice kA ps.length cA)).setCell ⟨g3, 12, none⟩ (.slice kB ps.length cB))) := (Kp.of_below HB5.out).trans HK2.out (fun _ _ h => h)
      have HNT : Hid (Ntv ((wB.setCell ⟨g3, 11, none⟩ (.slice kA ps.length cA)).setCell ⟨g3, 12, none⟩ (.slice kB ps.length cB)) (w.heap.size + 2) ((wB.setCell ⟨g3, 11, none⟩ (.slice kA ps.length cA)).setCell ⟨g3, 12, none⟩ (.slice kB ps.length cB)).heap.size (t.wp js ps) (vcs t (.slice ya t.y.length yc) (.slice kA ps.length cA) (.slice kB ps.length cB))) := by
        refine ntv_pick ⟨HBD.out.n, HBD.out.b, HBD.out.s, HBD.out.y, HBD.out.l, HBD.out.d⟩ HYB.out ?_ ?_ ?_ ?_ ?_ ?_ hpl HKSZ.out (fun p hp => by have := HSP.out.lt p hp; omega) (fun p hp => by have := HSP.out.lt p hp; have := HMD.out.n; omega) HLL.out H13.out HK5.out HCS.out (by omega)
        · exact HK5.out.owns HYO.out (fun q hq e => by have := HYG.out q hq; omega)
        · intro q hq
          have := HYG.out q hq
          omega
        · exact own_mono (HK2.out.owns HOA.out (fun q hq e => by have := HOA.out.lt q hq; omega)) (by omega)
        · intro q hq
          have := HOA.out.lt q hq
          omega
        · exact own_mono (HK2.out.owns HOB.out (fun q hq e => by have := HOB.out.lt q hq; omega)) (by omega)
        · intro q hq
          have := HOB.out.lt q hq
          omega
      have HXL : Hid (∀ j v, (vcs t (.slice ya t.y.length yc) (.slice kA ps.length cA) (.slice kB ps.length cB))[j]? = some v → ((wB.setCell ⟨g3, 11, none⟩ (.slice kA ps.length cA)).setCell ⟨g3, 12, none⟩ (.slice kB ps.length cB)).cell? ⟨g3, 0 + j, none⟩ = some v) := fun j v hv => by
        rw [Nat.zero_add]
        exact blk_cell HR2.out hv
      have HONA := hide HNT.out.tin.all1
      have HIN : Hid ((Tryz.prog.info? 55).map (·.size) = some (vcs t (.slice ya t.y.length yc) (.slice kA ps.length cA) (.slice kB ps.length cB)).size) := infoV
      have HRR : Hid (((wB.setCell ⟨g3, 11, none⟩ (.slice kA ps.length cA)).setCell ⟨g3, 12, none⟩ (.slice kB ps.length cB)).heap[w.heap.size + 1]? = some (.cells zv 55 (0, 0))) := (HK5.out.block _ (by omega) (fun e => by omega)).trans HW5.out.r
      have HZV : Hid (zv.size = (vcs t (.slice ya t.y.length yc) (.slice kA ps.length cA) (.slice kB ps.length cB)).size) := rfl
      have HBF : Hid (Below w.heap.size w ((wB.setCell ⟨g3, 11, none⟩ (.slice kA ps.length cA)).setCell ⟨g3, 12, none⟩ (.slice kB ps.length cB))) := HW5.out.b.trans (HK5.out.below HW5.out.b.size (fun q e => by omega))
      clear hz hg5 hg3
      go_wp2_with (first
        | (refine wpList_valAt rfl rfl g3 0 (vcs t (.slice ya t.y.length yc) (.slice kA ps.length cA) (.slice kB ps.length cB)) rfl rfl HXL.out ?_)
        | (refine wpList_storeRow rfl rfl (w.heap.size + 1) zv (vcs t (.slice ya t.y.length yc) (.slice kA ps.length cA) (.slice kB ps.length cB)) 55 rfl rfl HRR.out HIN.out HZV.out HONA.out ?_))
      have hkr := row_kp ((wB.setCell ⟨g3, 11, none⟩ (.slice kA ps.length cA)).setCell ⟨g3, 12, none⟩ (.slice kB ps.length cB)) (w.heap.size + 1) (vcs t (.slice ya t.y.length yc) (.slice kA ps.length cA) (.slice kB ps.length cB))
      have hzr := hkr.size
      exact bodyPost_ret (end_so rfl (row_same HRR.out) rfl) rfl ⟨_, rfl, t.wp js ps, srt_pick hk9 HMD.out HSP.out, (HNT.out.kp hkr (fun q h1 h2 e => by omega)).mono (by omega) hzr, HBF.out.trans (hkr.below HBF.out.size (fun q e => by omega))⟩
  · as_aux_lemma =>
    have g9 : (t.k == 9) = false := by simpa using hk9
    have HCX : Hid (∀ j u, c[j]? = some u → ((w3.alloc (.cells zv 55)).setRow w3.heap.size c).cell? ⟨w3.heap.size, 0 + j, none⟩ = some u) := HIT.out.cells
    have HR4 := hide HW4.out.r
    go_wp2_with (first
      | (refine wpList_storeRow rfl rfl w3.heap.size zv c 55 rfl rfl HG0.out HIN.out HZV.out HA1.out ?_)
      | (refine wpList_valAt rfl rfl w3.heap.size 0 c rfl HS1.out HCX.out ?_)
      | (refine wpList_storeRow rfl rfl (w.heap.size + 1) zv c 55 rfl rfl HR4.out HIN.out HZV.out HA1.out ?_))
    have hkr := row_kp ((w3.alloc (.cells zv 55)).setRow w3.heap.size c) (w.heap.size + 1) c
    have hzr := hkr.size
    have hz4 := HIT.out.z
    have hz3 := HW3.out.z
    have hfin : w3.heap.size ≤ (((w3.alloc (.cells zv 55)).setRow w3.heap.size c).setRow (w.heap.size + 1) c).heap.size := by omega
    refine bodyPost_ret (end_so HS1.out (row_same HR4.out) rfl) rfl ⟨_, t.wi js, rfl, SrtR.rest t (t.wi js) hk9 ⟨rfl, rfl, rfl, rfl, rfl, rfl, rfl, rfl⟩ rfl HMD.out.n HMD.out.r, (HN4.out.kp hkr (fun q h1 h2 e => by omega)).mono (by omega) hfin, HW4.out.b.trans (hkr.below HW4.out.b.size (fun q e => by omega))⟩
end
end Go.Proofs.YtgcccndbahphaaaGreatDoor
