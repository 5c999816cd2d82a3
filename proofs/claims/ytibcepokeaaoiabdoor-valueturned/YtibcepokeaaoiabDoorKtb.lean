import Derived.Test.YtibcepokeaaoiabDoorKta
import Derived.Lib.SmallJoins
import Derived.Test.YtibcepokeaaoiabDoorTie
import Derived.Test.YtibcepokeaaoiabDoorCards
import Derived.ProofKit
namespace Go.Proofs.YtibcepokeaaoiabDoor
section
open Go.RowKit Go
theorem much_sum : ∀ l : List Tv, tmuchL l = (l.map tmuch).sum
  | [] => by simp [tmuchL]
  | t :: r => by rw [tmuchL, much_sum r]; simp
theorem pick_nat {l ps : List Nat} (hp : ps.Perm (List.range l.length)) : (ps.map fun p => l.getD p 0).sum = l.sum := by
  have h1 : (ps.map fun p => l.getD p 0).Perm ((List.range l.length).map fun p => l.getD p 0) := hp.map _
  have h2 : ((List.range l.length).map fun p => l.getD p 0) = l := by
    refine List.ext_getElem? fun i => ?_
    rw [List.getElem?_map]
    by_cases hi : i < l.length
    · rw [List.getElem?_range hi]
      simp [List.getD, hi]
    · rw [List.getElem?_eq_none (by simpa using hi), List.getElem?_eq_none (by omega)]
      rfl
  rw [h2] at h1
  exact h1.sum_nat
theorem trn_much {t w : Tv} (h : Trn t w) : Trk t → tmuch w = tmuch t := by
  induction h with
  | rest t w h9 hT hk hn hi ih =>
    intro ht
    have e : tmuchL w.is = tmuchL t.is := by
      rw [much_sum, much_sum]
      congr 1
      refine List.ext_getElem? fun i => ?_
      rw [List.getElem?_map, List.getElem?_map]
      by_cases hl : i < t.is.length
      · have e1 := List.getElem?_eq_getElem hl
        have e2 := List.getElem?_eq_getElem (show i < w.is.length by omega)
        rw [e1, e2, Option.map_some, Option.map_some, ih i _ _ e1 e2 (ht.i _ (List.getElem_mem hl))]
      · rw [List.getElem?_eq_none (by omega), List.getElem?_eq_none (by omega)]
    rw [tmuch_eq, tmuch_eq, e, hk, hT.y, hT.s, hT.l]
  | map t w ps h9 hT hp hk hn hi ih =>
    intro ht
    obtain ⟨hlen, _⟩ := ht.m h9
    have hpl := perm_len hp
    have e : tmuchL w.is = tmuchL t.is := by
      rw [much_sum, much_sum, ← pick_nat (l := t.is.map tmuch) (ps := ps) (by rw [List.length_map]; exact hp)]
      congr 1
      refine List.ext_getElem? fun i => ?_
      rw [List.getElem?_map, List.getElem?_map]
      by_cases hl : i < ps.length
      · have e0 := List.getElem?_eq_getElem hl
        have hlt := perm_lt hp e0
        have e1 := List.getElem?_eq_getElem hlt
        have e2 := List.getElem?_eq_getElem (show i < w.is.length by omega)
        rw [e0, e2, Option.map_some, Option.map_some, ih i _ _ _ e0 e1 e2 (ht.i _ (List.getElem_mem hlt))]
        simp [List.getD, hlt]
      · rw [List.getElem?_eq_none (by omega), List.getElem?_eq_none (by omega)]
        rfl
    have hkp := pickS_perm hlen hp
    rw [← hk] at hkp
    have e2 : (w.ks.map fun k => k.size / 64).sum = (t.ks.map fun k => k.size / 64).sum := (hkp.map _).sum_nat
    rw [tmuch_eq, tmuch_eq, e, e2, hkp.length_eq, hT.y, hT.s, hT.l]
theorem srt_trn {t s : Tv} (h : SrtR t s) : Trk t → Trn t s := by
  induction h with
  | rest t s h9 hT hk hn hi ih =>
    intro ht
    exact Trn.rest t s h9 hT hk hn fun i u v hu hv => ih i u v hu hv (ht.i _ (List.mem_of_getElem? hu))
  | map t s ps h9 hT hp hk hn hi ih =>
    intro ht
    obtain ⟨hlen, _⟩ := ht.m h9
    have e : min t.ks.length t.is.length = t.is.length := by omega
    have hpp := hp.p
    rw [e] at hpp
    exact Trn.map t s ps h9 hT hpp hk (by rw [hn, perm_len hpp]) fun i p u v hp' hu hv => ih i p u v hp' hu hv (ht.i _ (List.mem_of_getElem? hu))
end
section
open Go.RowKit Go
theorem lthird_bad {v : Int} {c a : Nat} {b : List Nat} (h : (lthird v c a b).2.2 ≠ 0) : (lthird v c a b).1 = Lk.none ∧ (lthird v c a b).2.1 = 0 := by
  unfold lthird at h ⊢
  split
  · rename_i h0
    rw [if_pos h0] at h
    exact absurd rfl h
  · exact ⟨rfl, rfl⟩
theorem lfirst_bad {b : List Nat} (h : (lfirst b).2.2 ≠ 0) : (lfirst b).1 = Lk.none ∧ (lfirst b).2.1 = 0 := by
  unfold lfirst at h ⊢
  split
  · rename_i h0
    rw [if_pos h0] at h
    exact lthird_bad h
  · rename_i h0
    rw [if_neg h0] at h
    split
    · exact ⟨rfl, rfl⟩
    · rename_i h1
      rw [if_neg h1] at h
      split
      · exact ⟨rfl, rfl⟩
      · rename_i h2
        rw [if_neg h2] at h
        split
        · exact ⟨rfl, rfl⟩
        · rename_i h3
          rw [if_neg h3] at h
          exact lthird_bad h
theorem lbytes_d {l : Lk} {b : List Nat} (hb : ∀ x ∈ b, x < 256) (e : lbytes l = b) : ∀ x ∈ l.d, x < 256 := fun x hx => hb x (by
  rw [← e]
  unfold lbytes
  split
  · simp [hx]
  · simp [hx])
theorem lok_lkb {l : Lk} (h : lok l) (hd : ∀ x ∈ l.d, x < 256) : Lkb l := by
  have hk := lok_okd h
  unfold okd at hk
  refine ⟨?_, by omega, hd, by omega⟩
  rcases h with h | h
  · omega
  · omega
theorem lparsetext_bad {s : List Nat} (h : (lparsetext s).2 ≠ 0) : (lparsetext s).1 = Lk.none := by
  unfold lparsetext at h ⊢
  split
  · rfl
  · rename_i h1
    rw [if_neg h1] at h
    split
    · rfl
    · rename_i h2
      rw [if_neg h2] at h
      cases ht : ltake s with
      | none => rfl
      | some p =>
        obtain ⟨v, b⟩ := p
        rw [ht] at h
        simp only at h ⊢
        split
        · rfl
        · rename_i h3
          rw [if_neg h3] at h
          split
          · rfl
          · rename_i h4
            rw [if_neg h4] at h
            exact absurd rfl h
/-- Whether one of the first texts is this one. -/
def fnd (l : Lk) (s : List Nat) : Nat → Bool
  | 0 => decide ((lttx l).1 = s)
  | k + 1 => fnd l s k || (decide ((ltin l ((k + 1 : Nat) : Int)).2 = 0) && decide ((ltin l ((k + 1 : Nat) : Int)).1 = s))
theorem fnd_mono {l : Lk} {s : List Nat} {k : Nat} (h : fnd l s k = true) : ∀ m, fnd l s (k + m) = true
  | 0 => h
  | m + 1 => by
    show (fnd l s (k + m) || _) = true
    rw [fnd_mono h m]
    rfl
theorem fnd_all {l : Lk} {s : List Nat} (h : lparsetext s = (l, 0)) : fnd l s 3 = true := by
  obtain ⟨hk, hd, h1 | ⟨hv, base, hb1, hb3, hs⟩⟩ := lparsetext_back h
  · have e : fnd l s 0 = true := by
      show decide ((lttx l).1 = s) = true
      unfold lttx
      rw [if_pos hk, h1]
      simp
    exact fnd_mono e 3
  · have hv0 : l.v ≠ 0 := by omega
    have e : fnd l s base = true := by
      obtain ⟨k, rfl⟩ : ∃ k, base = k + 1 := ⟨base - 1, by omega⟩
      show (fnd l s k || (decide ((ltin l ((k + 1 : Nat) : Int)).2 = 0) && decide ((ltin l ((k + 1 : Nat) : Int)).1 = s))) = true
      rw [ltin_text hk hv0 (n := k + 1) (by omega), hs]
      simp
    have : fnd l s (base + (3 - base)) = true := fnd_mono e _
    have e2 : base + (3 - base) = 3 := by omega
    rwa [e2] at this
theorem eq_str {xs : List Nat} (hx : ∀ x ∈ xs, x < 256) (s : ByteArray) : ((nstr xs).toList == s.toList) = decide (xs = sl s) := by
  have e : s = nstr (sl s) := (nstr_sl s).symm
  by_cases h : xs = sl s
  · rw [h, nstr_sl]
    simp
  · rw [decide_eq_false h, beq_eq_false_iff_ne]
    intro h2
    rw [e] at h2
    exact h (nstr_inj hx (sl_byte s) h2)
theorem lttx_byte {l : Lk} : ∀ x ∈ (lttx l).1, x < 256 := by
  unfold lttx
  split
  · intro x hx
    simp only at hx
    unfold ltext at hx
    split at hx
    · have h := btext_byte b58 (lbytes l)
      rw [btext58] at h
      exact h x hx
    · have h := btext_byte b32 (lbytes l)
      rw [btext32] at h
      unfold ltextin at hx
      rw [if_neg (by decide), if_pos rfl] at hx
      rcases List.mem_cons.1 hx with e | e
      · omega
      · exact h x e
  · simp
theorem ltin_byte {l : Lk} {n : Int} : ∀ x ∈ (ltin l n).1, x < 256 := by
  unfold ltin
  split
  · split
    · simp
    · intro x hx
      rcases List.mem_append.1 hx with e | e
      · exact sl_byte _ x e
      · exact btext_byte _ _ x e
  · simp
/-- What the second half of LinkOne has in hand is what the first has. -/
theorem zlk_none : lcs Lk.none = #[.int .i64 0, .int .u64 0, .int .u64 0, .string ⟨#[]⟩] := rfl
end
section
open Go.RowKit Go
theorem qstep_nelk {C : World → Prop} {ops : Array Oper} {o : Oper} {a : Act} {K : Act → Prop} {x y : Operand} {T2 : TypeId} (hgd : Region.wanted o (yielded ops a.tmps) = true) (ho : o.op = .binOp .neq 25 x y T2) (A B : Array Value) (r : Bool)
    (hx : a.eval x = .agg A) (hy : a.eval y = .agg B) (he : ∀ w, C w → (Op.equalIn 10000 25 (.agg A) (.agg B)).run Tryd.prog w = .ok r w)
    (h : K (a.put o.dst (.bool (!r)))) : if Region.wanted o (yielded ops a.tmps) = true then o.quiet Tryd.prog a C K else K (a.put o.dst undef) := by
  rw [if_pos hgd]
  refine ⟨.bool (!r), fun w hC => ?_, h⟩
  unfold Oper.quietAt
  rw [exec_nelk ho hx hy (he w hC)]
  exact ⟨rfl, rfl⟩
theorem ltext_first {l : Lk} (h : lok l) (hd : ∀ x ∈ l.d, x < 256) : (ltext l).getD 0 0 = if l.v = 0 then 81 else 98 := by
  by_cases hv : l.v = 0
  · obtain ⟨s, e⟩ := of58_old h hv hd
    unfold ltext
    rw [if_pos hv, if_pos hv, e]
    rfl
  · unfold ltext
    rw [if_neg hv, if_neg hv]
    rfl
theorem ltextin_first (l : Lk) (n : Nat) (hn : n = 1 ∨ n = 2 ∨ n = 3) : (ltextin l n).getD 0 0 = if n = 1 then 102 else if n = 2 then 98 else 122 := by
  rcases hn with rfl | rfl | rfl <;> rfl
theorem ltext_pos {l : Lk} (h : lok l) (hd : ∀ x ∈ l.d, x < 256) : 0 < (ltext l).length := by
  have := ltext_first h hd
  cases ht : ltext l with
  | nil => rw [ht] at this; simp at this; split at this <;> omega
  | cons x r => simp
theorem ltextin_pos (l : Lk) (n : Nat) : 0 < (ltextin l n).length := by
  unfold ltextin
  split
  · simp
  · split
    · simp
    · simp
theorem ltext_byte {l : Lk} (h : lok l) : ∀ x ∈ ltext l, x < 256 := by
  have := lttx_byte (l := l)
  unfold lttx at this
  rw [if_pos h] at this
  exact this
theorem ltextin_byte {l : Lk} (h : lok l) (hv : l.v ≠ 0) {n : Nat} (hn : n = 1 ∨ n = 2 ∨ n = 3) : ∀ x ∈ ltextin l n, x < 256 := by
  have := ltin_byte (l := l) (n := (n : Nat))
  rw [ltin_text h hv hn] at this
  exact this
end
section
open Go.RowKit Go
/-- A slice of links, plainly. -/
structure LSl (w : World) (v : Value) (ls : List Lk) : Prop where
  form : ∃ a cap, v = .slice a ls.length cap ∧ (ls.length ≤ cap ∧ (a = none → cap = 0)) ∧ (ls = [] ∨ ∃ b off, a = some ⟨b, off, none⟩ ∧ ∀ i l, ls[i]? = some l → ∀ j u, (lcs l)[j]? = some u → w.cell? ⟨b, off + i * 4 + j, none⟩ = some u)
  max : ls.length ≤ 140737488351232
  bd : ∀ l ∈ ls, Lkb l
theorem LSl.move {w w' : World} {v : Value} {ls : List Lk} (h : LSl w v ls) (hm : ∀ p u, w.cell? p = some u → w'.cell? p = some u) : LSl w' v ls := by
  obtain ⟨⟨a, c, hv, hn, hc⟩, h1, h2⟩ := h
  refine ⟨⟨a, c, hv, hn, ?_⟩, h1, h2⟩
  rcases hc with hc | ⟨b, off, ha, hc⟩
  · exact .inl hc
  · exact .inr ⟨b, off, ha, fun i l hi j u hj => hm _ _ (hc i l hi j u hj)⟩
set_option maxRecDepth 1000000 in
set_option maxHeartbeats 400000 in
theorem eqLinks_any {w : World} {v u : Value} {ks ls : List Lk} (hv : LSl w v ks) (hu : LSl w u ls) :
    Calls Tryd.prog 14 #[v, u] w fun e w' => e = .returned (.bool (decide (ks = ls))) ∧ Below w.heap.size w w' := by
  generalize hR : decide (ks = ls) = R
  have HR := hide hR
  clear hR
  obtain ⟨⟨av, cv, rfl, _, hf⟩, hkm, hkb⟩ := hv
  obtain ⟨⟨au, cu, rfl, _, hg⟩, hlm, hlb⟩ := hu
  have HKB := hide hkb
  have HLB := hide hlb
  clear hkb hlb
  have HF := hide hf
  have HG := hide hg
  clear hf hg
  by_cases hl : ks.length = ls.length
  · have g0 : ((ks.length : Int) != (ls.length : Int)) = false := by rw [nat_ne]; simp [hl]
    have HL := hide hl
    clear hl
    go_enter Tryd.func14, Tryd.ntmps14
    go_wp2_with fail
    go_loopw [5] (fun ii wx => ∃ i : Nat, i ≤ ks.length ∧ ii = .int .i64 (i : Nat) ∧ Hid (∀ j, j < i → ks[j]? = ls[j]?) ∧ Hid (Below w.heap.size w wx)) (fun ii _ => ks.length - (intOf ii).toNat)
    case atStart => exact ⟨0, by omega, rfl, fun j hj => absurd hj (by omega), Below.refl _ _⟩
    case round =>
      obtain ⟨i, hi, rfl, HI, HBw⟩ := hrel
      by_cases hlt : i < ks.length
      · have g1 : (i : Int) < (ks.length : Int) := by omega
        have hlt2 : i < ls.length := by rw [← HL.out]; exact hlt
        have g2 : (i : Int) < (ls.length : Int) := by omega
        obtain ⟨s, hs⟩ : ∃ s, ks[i]? = some s := ⟨ks[i], List.getElem?_eq_getElem hlt⟩
        obtain ⟨t, ht⟩ : ∃ s, ls[i]? = some s := ⟨ls[i], List.getElem?_eq_getElem hlt2⟩
        obtain ⟨b, off, rfl, hcc⟩ := HF.out.resolve_left (fun h => by rw [h] at hlt; simp at hlt)
        obtain ⟨b2, off2, rfl, hcd⟩ := HG.out.resolve_left (fun h => by rw [h] at hlt2; simp at hlt2)
        have HQ1 : Hid (∀ wx, (∃ x : Ext wr, wx = x.w') → ∀ j x, (lcs s)[j]? = some x → wx.cell? ⟨b, off + i * 4 + j, none⟩ = some x) := by
          rintro _ ⟨y, rfl⟩ j x hx
          exact keep_below y.h _ _ (keep_below HBw.out _ _ (hcc i s hs j x hx))
        have HQ2 : Hid (∀ wx, (∃ x : Ext wr, wx = x.w') → ∀ j x, (lcs t)[j]? = some x → wx.cell? ⟨b2, off2 + i * 4 + j, none⟩ = some x) := by
          rintro _ ⟨y, rfl⟩ j x hx
          exact keep_below y.h _ _ (keep_below HBw.out _ _ (hcd i t ht j x hx))
        have HEQ : Hid (∀ wx : World, (Op.equalIn 10000 25 (.agg (lcs s)) (.agg (lcs t))).run Tryd.prog wx = .ok (decide (s = t)) wx) := fun wx => eqlk wx (HKB.out s (List.mem_of_getElem? hs)).d (HLB.out t (List.mem_of_getElem? ht)).d
        clear hcc hcd HF HG
        by_cases he : s = t
        · as_aux_lemma =>
          rw [decide_eq_true he] at HEQ
          have HI2 : Hid (∀ j, j < i + 1 → ks[j]? = ls[j]?) := fun j hj => by
            by_cases hji : j = i
            · rw [hji, hs, ht, he]
            · exact HI.out j (by omega)
          clear he hs ht HI
          go_wp2_with fail
          refine region_ext (by kernel_rfl) (by kernel_rfl) ?_
          repeat (
            refine wpQuiet_step (fun K hK => ?_)
            first
              | (refine qstep_lkAt rfl rfl b (off + i * 4) s rfl HQ1.out (hK _ ?_); clear hK K)
              | (refine qstep_lkAt rfl rfl b2 (off2 + i * 4) t rfl HQ2.out (hK _ ?_); clear hK K)
              | (refine qstep_nelk rfl rfl (lcs s) (lcs t) true rfl rfl (fun wx _ => HEQ.out wx) (hK _ ?_); clear hK K)
              | (go_simp
                 refine hK _ ?_; clear hK K))
          refine wpQuiet_nil ?_
          rintro _ ⟨tq, rfl⟩
          have HB2 : Hid (Below w.heap.size w tq.w') := HBw.out.trans (tq.h.mono HBw.out.size)
          go_wp2_with fail
          go_roundw
          case rel => exact ⟨i + 1, by omega, by go_num, HI2, HB2⟩
          case measure => simp [intOf]; omega
        · as_aux_lemma =>
          rw [decide_eq_false he] at HEQ
          have HN : Hid (ks ≠ ls) := fun h => by
            rw [h, ht] at hs
            exact he (Option.some.inj hs).symm
          clear he hs ht HI
          go_wp2_with fail
          refine region_ext (by kernel_rfl) (by kernel_rfl) ?_
          repeat (
            refine wpQuiet_step (fun K hK => ?_)
            first
              | (refine qstep_lkAt rfl rfl b (off + i * 4) s rfl HQ1.out (hK _ ?_); clear hK K)
              | (refine qstep_lkAt rfl rfl b2 (off2 + i * 4) t rfl HQ2.out (hK _ ?_); clear hK K)
              | (refine qstep_nelk rfl rfl (lcs s) (lcs t) false rfl rfl (fun wx _ => HEQ.out wx) (hK _ ?_); clear hK K)
              | (go_simp
                 refine hK _ ?_; clear hK K))
          refine wpQuiet_nil ?_
          rintro _ ⟨tq, rfl⟩
          have HB2 : Hid (Below w.heap.size w tq.w') := HBw.out.trans (tq.h.mono HBw.out.size)
          go_wp2_with fail
          go_ret
          exact ⟨by rw [← HR.out, decide_eq_false HN.out]; rfl, HB2.out⟩
      · as_aux_lemma =>
        have g1 : ¬ (i : Int) < (ks.length : Int) := by omega
        have HN : Hid (ks = ls) := List.ext_getElem? fun j => by
          by_cases hj : j < i
          · exact HI.out j hj
          · rw [List.getElem?_eq_none (by omega), List.getElem?_eq_none (by rw [← HL.out]; omega)]
        go_wp2_with fail
        go_ret
        exact ⟨by rw [← HR.out, decide_eq_true HN.out]; rfl, HBw.out⟩
  · as_aux_lemma =>
    have g0 : ((ks.length : Int) != (ls.length : Int)) = true := by rw [nat_ne]; simp [hl]
    have HN : Hid (ks ≠ ls) := fun h => hl (by rw [h])
    clear hl HF HG
    go_enter Tryd.func14, Tryd.ntmps14
    go_wp2_with fail
    go_ret
    exact ⟨by rw [← HR.out, decide_eq_false HN.out]; rfl, Below.refl _ _⟩
end
section
open Go.RowKit Go
theorem LSl.own {w : World} {B n : Nat} {v : Value} {ls : List Lk} (h : w.ownsRow B 25 4 v n (fcl ls)) (hn : n = ls.length) (hm : ls.length ≤ 140737488351232) (hb : ∀ l ∈ ls, Lkb l) : LSl w v ls := by
  subst hn
  rcases id h.2 with ⟨hv, he⟩ | ⟨g, cap, cur, hv, _, _, h1, _⟩
  · subst hv
    have e : ls = [] := List.length_eq_zero_iff.1 he
    subst e
    exact ⟨⟨none, 0, rfl, ⟨by simp, fun _ => rfl⟩, .inl rfl⟩, hm, hb⟩
  · subst hv
    refine ⟨⟨_, cap, rfl, ⟨by omega, fun h => by cases h⟩, .inr ⟨g, 0, rfl, fun i l hl j u hu => ?_⟩⟩, hm, hb⟩
    have := h.cells (g := g) rfl (i * 4 + j) u (fcl_get ls i l j u hl hu)
    have hadd : (⟨g, 0, none⟩ : Addr).add (i * 4 + j) = ⟨g, i * 4 + j, none⟩ := by unfold Addr.add; split <;> simp_all
    rw [hadd] at this
    rw [Nat.zero_add]
    exact this
theorem lnkf_bd {w : World} (t : Tv) : ∀ c, Tin w t c → ∀ l ∈ lnkf t, Lkb l := by
  have key : ∀ N, ∀ t : Tv, SizeOf.sizeOf t = N → ∀ c, Tin w t c → ∀ l ∈ lnkf t, Lkb l := by
    intro N
    induction N using Nat.strongRecOn with
    | _ N ih =>
      intro t hN c ht l hl
      obtain ⟨vy, vk, vi, rfl, _, _, hv, hb⟩ := ht.parts
      by_cases h7 : t.k = 7
      · rw [lnkf_7 h7, List.mem_singleton] at hl
        rw [hl]
        exact hb.l
      · by_cases h8 : t.k = 8 ∨ t.k = 9
        · rw [lnkf_n h7 h8] at hl
          obtain ⟨p, _, hp⟩ := List.mem_flatMap.1 hl
          by_cases hpl : p < t.is.length
          · have e := List.getElem?_eq_getElem hpl
            rw [lnx_at e] at hp
            obtain ⟨⟨a, cap, hva, _, hform⟩, _⟩ := hv
            obtain ⟨b, off, _, hc⟩ := hform.resolve_left (fun h => by rw [h] at hpl; simp at hpl)
            obtain ⟨d, hd, _⟩ := hc p _ e
            exact ih _ (by rw [← hN]; exact Tv.is_lt (List.getElem_mem hpl)) _ rfl d hd l hp
          · unfold lnx at hp
            rw [dif_neg hpl] at hp
            cases hp
        · rw [lnkf_0 h7 h8] at hl
          cases hl
  exact key _ t rfl
/-- Links of a tree, as a row that may be held against another. -/
theorem links_lsl (t : Tv) (w : World) (cs : Array Value) (ht : Tin w t cs) (hm : tmuch t ≤ 100000) : Calls Tryd.prog 15 #[.agg cs] w fun e w' => ∃ v', e = .returned v' ∧ LSl w' v' (lnkf t) ∧ Below w.heap.size w w' := by
  refine (links6_any t w cs ht hm).mono ?_
  rintro e w' ⟨v', he, ho, hb⟩
  exact ⟨v', he, LSl.own ho rfl (by have := lnkf_le t; omega) (lnkf_bd t cs ht), hb⟩
end
section
open Go.RowKit Go
set_option maxRecDepth 1000000 in
theorem within6_any (m : Int) (w : World) : Calls Tryd.prog 10 #[.int .i64 m, .int .i64 1000] w fun e w' => ∃ k : Nat, k < 1000 ∧ e = .returned (.int .i64 (k : Nat)) ∧ w' = w := by
  have h1 : -1000 < m.tmod 1000 ∧ m.tmod 1000 < 1000 := by
    by_cases h : 0 ≤ m
    · rw [Int.tmod_eq_emod_of_nonneg h]; omega
    · have e : m = -(-m) := by omega
      rw [e, Int.neg_tmod, Int.tmod_eq_emod_of_nonneg (by omega)]; omega
  by_cases hneg : m.tmod 1000 < 0
  · go_enter Tryd.func10, Tryd.ntmps10
    go_wp2
    go_ret
    refine ⟨(m.tmod 1000 + 1000).toNat, by omega, ?_, rfl⟩
    rw [Int.toNat_of_nonneg (by omega)]
    rfl
  · go_enter Tryd.func10, Tryd.ntmps10
    go_wp2
    go_ret
    refine ⟨(m.tmod 1000).toNat, by omega, ?_, rfl⟩
    rw [Int.toNat_of_nonneg (by omega)]
    rfl
/-- What ValueTurned stands on: its argument's own copy. -/
structure Trt (w wx : World) (cs : Array Value) (N : Int) : Prop where
  b : Below w.heap.size w wx
  p : wx.heap[w.heap.size]? = some (.cells (cs.push (.int .i64 N)) 31 (0, 0))
theorem Trt.next {w wx wy : World} {cs : Array Value} {N : Int} (h : Trt w wx cs N) (hb : Below wx.heap.size wx wy) : Trt w wy cs N :=
  ⟨h.b.trans (hb.mono h.b.size), (hb.block _ (blk_lt h.p)).trans h.p⟩
theorem Trt.va {w wx : World} {cs : Array Value} {N : Int} (h : Trt w wx cs N) : ∀ j u, cs[j]? = some u → wx.cell? ⟨w.heap.size, 0 + j, none⟩ = some u := fun j u hu => by
  rw [Nat.zero_add]
  refine blk_cell h.p ?_
  have hl := (Array.getElem?_eq_some_iff.1 hu).1
  rw [Array.getElem?_push_lt hl]
  rw [Array.getElem?_eq_getElem hl] at hu
  exact hu
theorem Trt.n {w wx : World} {cs : Array Value} {N : Int} (h : Trt w wx cs N) (hs : cs.size = 13) : wx.cell? ⟨w.heap.size, 13, none⟩ = some (.int .i64 N) := by
  refine blk_cell h.p ?_
  rw [← hs]
  simp
theorem vsl_one {w : World} {t : Tv} {c : Array Value} {g : Nat} (h : Tin w t c) (hg : w.heap[g]? = some (.cells c 29 (0, 0))) : VSl w (.slice (some ⟨g, 0, none⟩) 1 1) [t] := by
  refine ⟨⟨_, 1, rfl, ⟨by simp, fun h => by cases h⟩, .inr ⟨g, 0, rfl, fun i u hu => ?_⟩⟩, by simp⟩
  have hi := (List.getElem?_eq_some_iff.1 hu).1
  simp at hi
  subst hi
  simp at hu
  subst hu
  exact ⟨c, h, fun j x hx => by simpa using blk_cell hg hx⟩
/-- Another order of a tree, in a variable. -/
structure Tvr (wx : World) (g : Nat) (c : Array Value) (t : Tv) : Prop where
  x : wx.heap[g]? = some (.cells c 29 (0, 0))
  t : Tin wx t c
theorem Tvr.next {wx wy : World} {g : Nat} {c : Array Value} {t : Tv} (h : Tvr wx g c t) (hb : Below wx.heap.size wx wy) : Tvr wy g c t := ⟨(hb.block _ (blk_lt h.x)).trans h.x, h.t.move (keep_below hb)⟩
theorem below_alloc_drew (w : World) (o : Obj) : Below w.heap.size w (w.alloc o).drew := (below_alloc4 w o).drew
set_option maxRecDepth 1000000 in
set_option maxHeartbeats 4000000 in
theorem vturned_any (w : World) (cs : Array Value) (N : Int) (t : Tv) (ht : Tin w t cs) (hT : Tabs w) : Calls Tryd.prog 3 #[.agg (cs.push (.int .i64 N))] w fun e w' => e = .returned (.bool true) ∧ Below w.heap.size w w' := by
  have HT := hide hT
  have HTN := hide ht
  have HSZ := hide ht.size13
  have HQ0 : Hid (Trt w (w.alloc (.cells (cs.push (.int .i64 N)) 31)) cs N) := ⟨below_alloc4 w _, heap_alloc_new w _⟩
  clear ht hT
  generalize hcp : cs.push (.int .i64 N) = cp at *
  go_enter Tryd.func3, Tryd.ntmps3
  go_upto_region 1 with fail
  generalize w.alloc (.cells cp 31) = w1 at *
  clear hcp
  have HV1 := hide HQ0.out.va
  have HG1 := hide (heap_alloc_new w1 (.cells cs 29))
  have HQ1 := hide (HQ0.out.next (below_alloc4 w1 (.cells cs 29)))
  go_wp2_with (first
    | (refine wpList_valAt rfl rfl w.heap.size 0 cs rfl HSZ.out HV1.out ?_)
    | (refine wpList_val1 rfl rfl cs HSZ.out rfl ?_))
  refine (much_any [t] _ _ 20000 (vsl_one (HTN.out.move (keep_below HQ1.out.b)) HG1.out) (by omega)).mono ?_
  rintro e w2 ⟨r, rfl, hmu, hb2⟩
  have HMU := hide hmu
  have HQ2 := hide (HQ1.out.next hb2)
  clear hmu hb2 HQ1 HG1 HQ0 HV1
  by_cases hr : 20000 < r
  · as_aux_lemma =>
    have g0 : (20000 : Int) < (r : Int) := by omega
    go_wp2_with fail
    refine (wakes_any w2 (HT.out.next HQ2.out.b)).mono ?_
    rintro e w3 ⟨rfl, hb3⟩
    have HQ3 := hide (HQ2.out.next hb3)
    clear hb3
    go_wp2_with fail
    go_ret
    exact ⟨rfl, HQ3.out.b⟩
  have g0 : ¬ (20000 : Int) < (r : Int) := by omega
  have g0d : decide ((20000 : Int) < (r : Int)) = false := decide_eq_false g0
  have HM : Hid (tmuch t ≤ 20000) := by
    have h1 := HMU.out.eq (by omega)
    have h2 : tmuchL [t] = tmuch t := by rw [tmuchL, tmuchL]; omega
    show _ ≤ _
    omega
  have HV2 := hide HQ2.out.va
  clear HMU hr
  go_wp2_with (refine wpList_valAt rfl rfl w.heap.size 0 cs rfl HSZ.out HV2.out ?_)
  refine (check6_any t w2 cs (HTN.out.move (keep_below HQ2.out.b)) (by have := HM.out; omega) (HT.out.next HQ2.out.b)).mono ?_
  rintro e w3 ⟨rfl, hb3⟩
  have HQ3 := hide (HQ2.out.next hb3)
  clear hb3 HQ2 HV2
  go_wp2_with fail
  refine (num6_any _ w3).mono ?_
  rintro e w4 ⟨rfl, hw4⟩
  have hw4 := hw4.symm
  subst hw4
  by_cases hz : chkf t 0 = 0
  case neg => as_aux_lemma =>
    have g1 : ((chkf t 0 : Int) != 0) = true := by rw [nat_ne0]; simp [hz]
    clear hz
    generalize chkf t 0 = z at *
    go_wp2_with fail
    refine (wakes_any w3 (HT.out.next HQ3.out.b)).mono ?_
    rintro e w4 ⟨rfl, hb4⟩
    have HQ4 := hide (HQ3.out.next hb4)
    clear hb4
    go_wp2_with fail
    go_ret
    exact ⟨rfl, HQ4.out.b⟩
  have HCZ := hide hz
  have HTK := hide (chk_trk hz)
  rw [hz]
  clear hz
  go_wp2_with fail
  go_cut [3] from 19 to 24 (fun xx wx => ∃ (gx : Nat) (c : Array Value) (t' : Tv), xx = .pointer (some ⟨gx, 0, none⟩) ∧ Hid (Trt w wx cs N) ∧ Hid (Tvr wx gx c t') ∧ Hid (Trn t t'))
  case first => as_aux_lemma =>
    refine heldStart (S := fun wy => Trt w wy cs N) (by kernel_rfl) ?_
    have hS : Trt w w3.drew cs N := HQ3.out.next (by refine Below.drew ?_; exact Below.refl _ _)
    refine heldTake 0 _ rfl (by kernel_rfl) (by kernel_rfl) (by kernel_rfl) (fun _ _ _ h => h) rfl hS (fun wy hy => by first | (go_simp; done) | (go_simp; rfl) | rfl) ?_
    (try simp only [Act.put]); (try simp only [List.setIfInBounds_toArray, List.set_cons_zero, List.set_cons_succ])
    refine heldTake 1 _ rfl (by kernel_rfl) (by kernel_rfl) (by kernel_rfl) (fun _ _ _ h => h) rfl hS (fun wy hy => exec_valAt (g := w.heap.size) (off := 0) (cs := cs) rfl rfl HSZ.out hy.va) ?_
    (try simp only [Act.put]); (try simp only [List.setIfInBounds_toArray, List.set_cons_zero, List.set_cons_succ])
    refine heldTake 2 _ rfl (by kernel_rfl) (by kernel_rfl) (by kernel_rfl) (fun _ _ _ h => h) rfl hS (fun wy hy => by first | (go_simp; done) | (go_simp; rfl) | rfl) ?_
    (try simp only [Act.put]); (try simp only [List.setIfInBounds_toArray, List.set_cons_zero, List.set_cons_succ])
    refine heldTake 3 _ rfl (by kernel_rfl) (by kernel_rfl) (by kernel_rfl) (fun _ _ _ h => h) rfl hS (fun wy hy => by have h0 := hy.n HSZ.out; first | (go_simp; done) | (go_simp; rfl) | rfl) ?_
    (try simp only [Act.put]); (try simp only [List.setIfInBounds_toArray, List.set_cons_zero, List.set_cons_succ])
    refine wpAnyH_ready (rs := [4, 6]) (by kernel_rfl) (by simp) ?_
    refine AllReadyH.cons rfl (fun K hK => ?_) (AllReadyH.cons rfl (fun K hK => ?_) AllReadyH.nil)
    · as_aux_lemma =>
      go_simp
      refine (within6_any N _).mono ?_
      rintro e wd ⟨k, hk, rfl, hwd⟩
      subst hwd
      refine (Shut.out hK) _ _ hS (fun hS2 => ?_)
      clear hK K hS2
      (try simp only [Act.put]); (try simp only [List.setIfInBounds_toArray, List.set_cons_zero, List.set_cons_succ])
      refine wpAnyH_ready (rs := [5, 6]) (by kernel_rfl) (by simp) ?_
      refine AllReadyH.cons rfl (fun K hK => ?_) (AllReadyH.cons rfl (fun K hK => ?_) AllReadyH.nil)
      · as_aux_lemma =>
        go_simp
        refine (turned_any k (by omega) t _ (fun _ => False) cs (Tis.of_tin (HTN.out.move (keep_below hS.b)) (fun _ h => h.elim)) (fun _ h => h.elim) HTK.out (by have := HM.out; omega)).mono ?_
        rintro e we ⟨c, t', rfl, hc, htr, hbe⟩
        have HTR := hide htr
        have HS1 := hide hc.tin.size13
        have HA1 := hide hc.tin.all1
        have HIN : Hid ((Tryd.prog.info? 29).map (·.size) = some c.size) := by show _ = _; rw [HS1.out]; exact infoV
        have HZV : Hid (zv.size = c.size) := by show _ = _; rw [HS1.out]; rfl
        have HG0 := hide (heap_alloc_new we (.cells zv 29))
        have hSe : Trt w we cs N := hS.next hbe
        have HQA : Hid (Trt w (we.alloc (.cells zv 29)) cs N) := hSe.next (below_alloc4 we _)
        have HQZ : Hid (Trt w ((we.alloc (.cells zv 29)).setRow we.heap.size c) cs N) := hSe.next (itm_mk we c).b
        have HVZ : Hid (Tvr ((we.alloc (.cells zv 29)).setRow we.heap.size c) we.heap.size c t') := ⟨(itm_mk we c).r, hc.tin.move (keep_below (itm_mk we c).b)⟩
        refine (Shut.out hK) _ _ hSe (fun hS2 => ?_)
        clear hK K hc htr hbe hS hSe
        (try simp only [Act.put]); (try simp only [List.setIfInBounds_toArray, List.set_cons_zero, List.set_cons_succ])
        refine heldStep 6 rfl (by kernel_rfl) (fun K hK => ?_)
        go_simp
        refine (Hid.out hK) _ (we.alloc (.cells zv 29)) HQA.out (fun hS3 => ?_)
        clear hK K hS2
        (try simp only [Act.put]); (try simp only [List.setIfInBounds_toArray, List.set_cons_zero, List.set_cons_succ])
        refine heldStep 7 rfl (by kernel_rfl) (fun K hK => ?_)
        refine step_storeRow rfl rfl we.heap.size zv c 29 rfl rfl HG0.out HIN.out HZV.out HA1.out ?_
        refine (Hid.out hK) _ _ HQZ.out (fun hS => ?_)
        clear hK K hS3
        (try simp only [Act.put]); (try simp only [List.setIfInBounds_toArray, List.set_cons_zero, List.set_cons_succ])
        refine heldDone (by kernel_rfl) ?_
        clear hS
        go_wp2_with fail
        go_meet
        case rel => exact ⟨_, c, t', rfl, HQZ, HVZ, HTR⟩
      · as_aux_lemma =>
        go_simp
        have HGX : Hid ((w3.alloc (.cells zv 29)).drew.heap[w3.heap.size]? = some (.cells zv 29 (0, 0))) := heap_alloc_new w3 (.cells zv 29)
        have HGL : Hid (w.heap.size < w3.heap.size) := blk_lt HQ3.out.p
        have HTI : Hid (Tis (w3.alloc (.cells zv 29)).drew (fun q => q = w3.heap.size) t cs) := (Tis.of_tin (S := fun q => q = w3.heap.size) (HTN.out.move (keep_below HQ3.out.b)) (fun q h => by omega)).kp (Kp.of_below (below_alloc_drew w3 _))
        have hSA : Trt w (w3.alloc (.cells zv 29)).drew cs N := HQ3.out.next (below_alloc_drew w3 _)
        refine (Shut.out hK) _ _ hSA (fun hS2 => ?_)
        clear hK K hS hSA
        have hS := hS2
        clear hS2
        (try simp only [Act.put]); (try simp only [List.setIfInBounds_toArray, List.set_cons_zero, List.set_cons_succ])
        unfold zv at HGX HTI hS
        generalize (w3.alloc (.cells #[.int .i64 0, .bool false, .bool false, .int .u64 0, .int .u64 0, .string ⟨#[]⟩, .slice none 0 0, .int .i64 0, .int .u64 0, .int .u64 0, .string ⟨#[]⟩, .slice none 0 0, .slice none 0 0] 29)).drew = w5 at *
        generalize w3.heap.size = gx at *
        have HGX : Hid (w5.heap[gx]? = some (.cells zv 29 (0, 0))) := HGX
        refine heldStep 5 rfl (by kernel_rfl) (fun K hK => ?_)
        go_simp
        refine (turned_any k (by omega) t _ (fun q => q = gx) cs (HTI.out) (fun q h => by rw [h]; exact blk_lt HGX.out) HTK.out (by have := HM.out; omega)).mono ?_
        rintro e we ⟨c, t', rfl, hc, htr, hbe⟩
        have HTR := hide htr
        have HS1 := hide hc.tin.size13
        have HA1 := hide hc.tin.all1
        have HIN : Hid ((Tryd.prog.info? 29).map (·.size) = some c.size) := by show _ = _; rw [HS1.out]; exact infoV
        have HZV : Hid (zv.size = c.size) := by show _ = _; rw [HS1.out]; rfl
        have HG0 : Hid (we.heap[gx]? = some (.cells zv 29 (0, 0))) := (hbe.block _ (blk_lt HGX.out)).trans HGX.out
        have hSe : Trt w we cs N := hS.next hbe
        have hrk := row_kp we gx c
        have HQZ : Hid (Trt w (we.setRow gx c) cs N) := ⟨hSe.b.trans (hrk.below hSe.b.size (fun q e => by have := HGL.out; omega)), (hrk.block _ (blk_lt hSe.p) (by have := HGL.out; omega)).trans hSe.p⟩
        have HVZ : Hid (Tvr (we.setRow gx c) gx c t') := ⟨row_same HG0.out, (hc.kp hrk).tin⟩
        refine (Hid.out hK) _ _ hSe (fun hS2 => ?_)
        clear hK K hc htr hbe hS hSe hrk
        (try simp only [Act.put]); (try simp only [List.setIfInBounds_toArray, List.set_cons_zero, List.set_cons_succ])
        refine heldStep 7 rfl (by kernel_rfl) (fun K hK => ?_)
        refine step_storeRow rfl rfl gx zv c 29 rfl rfl HG0.out HIN.out HZV.out HA1.out ?_
        refine (Hid.out hK) _ _ HQZ.out (fun hS => ?_)
        clear hK K hS2
        (try simp only [Act.put]); (try simp only [List.setIfInBounds_toArray, List.set_cons_zero, List.set_cons_succ])
        refine heldDone (by kernel_rfl) ?_
        clear hS
        go_wp2_with fail
        go_meet
        case rel => exact ⟨_, c, t', rfl, HQZ, HVZ, HTR⟩
    · as_aux_lemma =>
      go_simp
      have HGX : Hid ((w3.alloc (.cells zv 29)).drew.heap[w3.heap.size]? = some (.cells zv 29 (0, 0))) := heap_alloc_new w3 (.cells zv 29)
      have HGL : Hid (w.heap.size < w3.heap.size) := blk_lt HQ3.out.p
      have HTI : Hid (Tis (w3.alloc (.cells zv 29)).drew (fun q => q = w3.heap.size) t cs) := (Tis.of_tin (S := fun q => q = w3.heap.size) (HTN.out.move (keep_below HQ3.out.b)) (fun q h => by omega)).kp (Kp.of_below (below_alloc_drew w3 _))
      have hSA : Trt w (w3.alloc (.cells zv 29)).drew cs N := HQ3.out.next (below_alloc_drew w3 _)
      refine (Shut.out hK) _ _ hSA (fun hS2 => ?_)
      clear hK K hS hSA
      have hS := hS2
      clear hS2
      (try simp only [Act.put]); (try simp only [List.setIfInBounds_toArray, List.set_cons_zero, List.set_cons_succ])
      unfold zv at HGX HTI hS
      generalize (w3.alloc (.cells #[.int .i64 0, .bool false, .bool false, .int .u64 0, .int .u64 0, .string ⟨#[]⟩, .slice none 0 0, .int .i64 0, .int .u64 0, .int .u64 0, .string ⟨#[]⟩, .slice none 0 0, .slice none 0 0] 29)).drew = w5 at *
      generalize w3.heap.size = gx at *
      have HGX : Hid (w5.heap[gx]? = some (.cells zv 29 (0, 0))) := HGX
      refine heldStep 4 rfl (by kernel_rfl) (fun K hK => ?_)
      go_simp
      refine (within6_any N _).mono ?_
      rintro e wd ⟨k, hk, rfl, hwd⟩
      subst hwd
      refine (Hid.out hK) _ _ hS (fun hS2 => ?_)
      clear hK K hS2
      (try simp only [Act.put]); (try simp only [List.setIfInBounds_toArray, List.set_cons_zero, List.set_cons_succ])
      refine heldStep 5 rfl (by kernel_rfl) (fun K hK => ?_)
      go_simp
      refine (turned_any k (by omega) t _ (fun q => q = gx) cs (HTI.out) (fun q h => by rw [h]; exact blk_lt HGX.out) HTK.out (by have := HM.out; omega)).mono ?_
      rintro e we ⟨c, t', rfl, hc, htr, hbe⟩
      have HTR := hide htr
      have HS1 := hide hc.tin.size13
      have HA1 := hide hc.tin.all1
      have HIN : Hid ((Tryd.prog.info? 29).map (·.size) = some c.size) := by show _ = _; rw [HS1.out]; exact infoV
      have HZV : Hid (zv.size = c.size) := by show _ = _; rw [HS1.out]; rfl
      have HG0 : Hid (we.heap[gx]? = some (.cells zv 29 (0, 0))) := (hbe.block _ (blk_lt HGX.out)).trans HGX.out
      have hSe : Trt w we cs N := hS.next hbe
      have hrk := row_kp we gx c
      have HQZ : Hid (Trt w (we.setRow gx c) cs N) := ⟨hSe.b.trans (hrk.below hSe.b.size (fun q e => by have := HGL.out; omega)), (hrk.block _ (blk_lt hSe.p) (by have := HGL.out; omega)).trans hSe.p⟩
      have HVZ : Hid (Tvr (we.setRow gx c) gx c t') := ⟨row_same HG0.out, (hc.kp hrk).tin⟩
      refine (Hid.out hK) _ _ hSe (fun hS2 => ?_)
      clear hK K hc htr hbe hS hSe hrk
      (try simp only [Act.put]); (try simp only [List.setIfInBounds_toArray, List.set_cons_zero, List.set_cons_succ])
      refine heldStep 7 rfl (by kernel_rfl) (fun K hK => ?_)
      refine step_storeRow rfl rfl gx zv c 29 rfl rfl HG0.out HIN.out HZV.out HA1.out ?_
      refine (Hid.out hK) _ _ HQZ.out (fun hS => ?_)
      clear hK K hS2
      (try simp only [Act.put]); (try simp only [List.setIfInBounds_toArray, List.set_cons_zero, List.set_cons_succ])
      refine heldDone (by kernel_rfl) ?_
      clear hS
      go_wp2_with fail
      go_meet
      case rel => exact ⟨_, c, t', rfl, HQZ, HVZ, HTR⟩
  case rest =>
    obtain ⟨gx, c, t', rfl, HQ4, HX4, HTR⟩ := hcut
    obtain ⟨w5, hw5⟩ : ∃ x, x = wc := ⟨_, rfl⟩
    subst hw5
    have HK2 := hide (trn_trk HTR.out HTK.out)
    have HC2 := hide (trn_chk HTR.out HCZ.out)
    have HM2 : Hid (tmuch t' ≤ 20000) := by show _ ≤ _; rw [trn_much HTR.out HTK.out]; exact HM.out
    have HV5 := hide HQ4.out.va
    have HZX := hide HX4.out.t.size13
    clear HQ3 HCZ
    go_wp2_with (refine wpList_valAt rfl rfl w.heap.size 0 cs rfl HSZ.out HV5.out ?_)
    refine (sorted6_any t w5 cs (HTN.out.move (keep_below HQ4.out.b)) (by have := HM.out; omega)).mono ?_
    rintro e w6 ⟨cS, sS, rfl, hsr, hnt, hb6⟩
    have HSR := hide hsr
    have HKS := hide (trk_srt hsr HTK.out)
    have HMS : Hid (tmuch sS ≤ 20000) := by show _ ≤ _; rw [trn_much (srt_trn hsr HTK.out) HTK.out]; exact HM.out
    have HQ6 := hide ((HQ4.out.next hb6).next (itm_mk w6 cS).b)
    have HX6 := hide ((HX4.out.next hb6).next (itm_mk w6 cS).b)
    have HS6 : Hid (Tvr ((w6.alloc (.cells zv 29)).setRow w6.heap.size cS) w6.heap.size cS sS) := ⟨(itm_mk w6 cS).r, hnt.tin.move (keep_below (itm_mk w6 cS).b)⟩
    have HG0 := hide (heap_alloc_new w6 (.cells zv 29))
    have HZS := hide hnt.tin.size13
    have HA1 := hide hnt.tin.all1
    have HIN : Hid ((Tryd.prog.info? 29).map (·.size) = some cS.size) := by show _ = _; rw [HZS.out]; exact infoV
    have HZV : Hid (zv.size = cS.size) := by show _ = _; rw [HZS.out]; rfl
    have HXC : Hid (∀ j u, c[j]? = some u → ((w6.alloc (.cells zv 29)).setRow w6.heap.size cS).cell? ⟨gx, 0 + j, none⟩ = some u) := fun j u hu => by rw [Nat.zero_add]; exact blk_cell HX6.out.x hu
    clear hsr hnt hb6 HQ4 HX4 HV5
    go_wp2_with (first
      | (refine wpList_storeRow rfl rfl w6.heap.size zv cS 29 rfl rfl HG0.out HIN.out HZV.out HA1.out ?_)
      | (refine wpList_valAt rfl rfl gx 0 c rfl HZX.out HXC.out ?_))
    clear HG0 HIN HZV HA1 HXC
    unfold zv at HQ6 HX6 HS6
    generalize (w6.alloc (.cells #[.int .i64 0, .bool false, .bool false, .int .u64 0, .int .u64 0, .string ⟨#[]⟩, .slice none 0 0, .int .i64 0, .int .u64 0, .int .u64 0, .string ⟨#[]⟩, .slice none 0 0, .slice none 0 0] 29)).setRow w6.heap.size cS = w7 at *
    generalize w6.heap.size = gs at *
    have HE1 : Hid (eqf t t' = true) := (eqf_teq t t' HTK.out HK2.out).2 ⟨sS, HSR.out, trn_srt HSR.out HTK.out HTR.out⟩
    have HE2 : Hid (eqf t' t = true) := (eqf_teq t' t HK2.out HTK.out).2 ⟨sS, trn_srt HSR.out HTK.out HTR.out, HSR.out⟩
    have HE3 : Hid (eqf t t = true) := (eqf_teq t t HTK.out HTK.out).2 ⟨sS, HSR.out, HSR.out⟩
    have HE4 : Hid (eqf sS t' = true) := (eqf_teq sS t' HKS.out HK2.out).2 ⟨sS, srt_idem HSR.out, trn_srt HSR.out HTK.out HTR.out⟩
    refine (check6_any t' w7 c HX6.out.t (by have := HM2.out; omega) (HT.out.next HQ6.out.b)).mono ?_
    rintro e w8 ⟨rfl, hb8⟩
    have HQ8 := hide (HQ6.out.next hb8)
    have HX8 := hide (HX6.out.next hb8)
    have HS8 := hide (HS6.out.next hb8)
    rw [HC2.out]
    clear hb8 HQ6 HX6 HS6
    go_wp2_with fail
    refine (num6_any _ w8).mono ?_
    rintro e w9 ⟨rfl, hw9⟩
    have hw9 := hw9.symm
    subst hw9
    have HVa := hide HQ8.out.va
    have HVb : Hid (∀ j u, c[j]? = some u → w8.cell? ⟨gx, 0 + j, none⟩ = some u) := fun j u hu => by rw [Nat.zero_add]; exact blk_cell HX8.out.x hu
    have HVc : Hid (∀ j u, cS[j]? = some u → w8.cell? ⟨gs, 0 + j, none⟩ = some u) := fun j u hu => by rw [Nat.zero_add]; exact blk_cell HS8.out.x hu
    go_wp2_with (first
      | (refine wpList_valAt rfl rfl w.heap.size 0 cs rfl HSZ.out HVa.out ?_)
      | (refine wpList_valAt rfl rfl gx 0 c rfl HZX.out HVb.out ?_)
      | (refine wpList_valAt rfl rfl gs 0 cS rfl HZS.out HVc.out ?_))
    refine (equal6_any t t' w8 cs c (HTN.out.move (keep_below HQ8.out.b)) HX8.out.t (by have := HM.out; have := HM2.out; have := HMS.out; omega) (by have := HM.out; have := HM2.out; have := HMS.out; omega)).mono ?_
    rintro e w9 ⟨rfl, hbb⟩
    have HQ9 := hide (HQ8.out.next hbb)
    have HX9 := hide (HX8.out.next hbb)
    have HS9 := hide (HS8.out.next hbb)
    rw [HE1.out]
    clear hbb HQ8 HX8 HS8 HVa HVb HVc
    have HVa := hide HQ9.out.va
    have HVb : Hid (∀ j u, c[j]? = some u → w9.cell? ⟨gx, 0 + j, none⟩ = some u) := fun j u hu => by rw [Nat.zero_add]; exact blk_cell HX9.out.x hu
    have HVc : Hid (∀ j u, cS[j]? = some u → w9.cell? ⟨gs, 0 + j, none⟩ = some u) := fun j u hu => by rw [Nat.zero_add]; exact blk_cell HS9.out.x hu
    go_wp2_with (first
      | (refine wpList_valAt rfl rfl w.heap.size 0 cs rfl HSZ.out HVa.out ?_)
      | (refine wpList_valAt rfl rfl gx 0 c rfl HZX.out HVb.out ?_)
      | (refine wpList_valAt rfl rfl gs 0 cS rfl HZS.out HVc.out ?_))
    refine (equal6_any t' t w9 c cs HX9.out.t (HTN.out.move (keep_below HQ9.out.b)) (by have := HM.out; have := HM2.out; have := HMS.out; omega) (by have := HM.out; have := HM2.out; have := HMS.out; omega)).mono ?_
    rintro e w10 ⟨rfl, hbb⟩
    have HQ10 := hide (HQ9.out.next hbb)
    have HX10 := hide (HX9.out.next hbb)
    have HS10 := hide (HS9.out.next hbb)
    rw [HE2.out]
    clear hbb HQ9 HX9 HS9 HVa HVb HVc
    have HVa := hide HQ10.out.va
    have HVb : Hid (∀ j u, c[j]? = some u → w10.cell? ⟨gx, 0 + j, none⟩ = some u) := fun j u hu => by rw [Nat.zero_add]; exact blk_cell HX10.out.x hu
    have HVc : Hid (∀ j u, cS[j]? = some u → w10.cell? ⟨gs, 0 + j, none⟩ = some u) := fun j u hu => by rw [Nat.zero_add]; exact blk_cell HS10.out.x hu
    go_wp2_with (first
      | (refine wpList_valAt rfl rfl w.heap.size 0 cs rfl HSZ.out HVa.out ?_)
      | (refine wpList_valAt rfl rfl gx 0 c rfl HZX.out HVb.out ?_)
      | (refine wpList_valAt rfl rfl gs 0 cS rfl HZS.out HVc.out ?_))
    refine (equal6_any t t w10 cs cs (HTN.out.move (keep_below HQ10.out.b)) (HTN.out.move (keep_below HQ10.out.b)) (by have := HM.out; have := HM2.out; have := HMS.out; omega) (by have := HM.out; have := HM2.out; have := HMS.out; omega)).mono ?_
    rintro e w11 ⟨rfl, hbb⟩
    have HQ11 := hide (HQ10.out.next hbb)
    have HX11 := hide (HX10.out.next hbb)
    have HS11 := hide (HS10.out.next hbb)
    rw [HE3.out]
    clear hbb HQ10 HX10 HS10 HVa HVb HVc
    have HVa := hide HQ11.out.va
    have HVb : Hid (∀ j u, c[j]? = some u → w11.cell? ⟨gx, 0 + j, none⟩ = some u) := fun j u hu => by rw [Nat.zero_add]; exact blk_cell HX11.out.x hu
    have HVc : Hid (∀ j u, cS[j]? = some u → w11.cell? ⟨gs, 0 + j, none⟩ = some u) := fun j u hu => by rw [Nat.zero_add]; exact blk_cell HS11.out.x hu
    go_wp2_with (first
      | (refine wpList_valAt rfl rfl w.heap.size 0 cs rfl HSZ.out HVa.out ?_)
      | (refine wpList_valAt rfl rfl gx 0 c rfl HZX.out HVb.out ?_)
      | (refine wpList_valAt rfl rfl gs 0 cS rfl HZS.out HVc.out ?_))
    refine (equal6_any sS t' w11 cS c HS11.out.t HX11.out.t (by have := HM.out; have := HM2.out; have := HMS.out; omega) (by have := HM.out; have := HM2.out; have := HMS.out; omega)).mono ?_
    rintro e w12 ⟨rfl, hbb⟩
    have HQ12 := hide (HQ11.out.next hbb)
    have HX12 := hide (HX11.out.next hbb)
    have HS12 := hide (HS11.out.next hbb)
    rw [HE4.out]
    clear hbb HQ11 HX11 HS11 HVa HVb HVc
    go_wp2_with fail
    have HDD : Hid (tdepth t' = tdepth t) := by show _ = _; rw [← srt_depth (trn_srt HSR.out HTK.out HTR.out) HK2.out, srt_depth HSR.out HTK.out]
    have HLL : Hid (lnkf t' = lnkf t) := by show _ = _; rw [← srt_links (trn_srt HSR.out HTK.out HTR.out) HK2.out, srt_links HSR.out HTK.out]
    go_cut [5] from 56 to 84 (fun xx wx => xx = .bool true ∧ Hid (Trt w wx cs N ∧ Tvr wx gx c t' ∧ Tvr wx gs cS sS))
    case first => as_aux_lemma =>
      refine heldStart (S := fun wy => Trt w wy cs N ∧ Tvr wy gx c t' ∧ Tvr wy gs cS sS) (by kernel_rfl) ?_
      have hS : Trt w w12.drew cs N ∧ Tvr w12.drew gx c t' ∧ Tvr w12.drew gs cS sS := ⟨HQ12.out.next (by refine Below.drew ?_; exact Below.refl _ _), HX12.out.next (by refine Below.drew ?_; exact Below.refl _ _), HS12.out.next (by refine Below.drew ?_; exact Below.refl _ _)⟩
      refine heldTake 0 _ rfl (by kernel_rfl) (by kernel_rfl) (by kernel_rfl) (fun _ _ _ h => h) rfl hS (fun wy hy => by first | (go_simp; done) | (go_simp; rfl) | rfl) ?_
      (try simp only [Act.put]); (try simp only [List.setIfInBounds_toArray, List.set_cons_zero, List.set_cons_succ])
      refine heldTake 1 _ rfl (by kernel_rfl) (by kernel_rfl) (by kernel_rfl) (fun _ _ _ h => h) rfl hS (fun wy hy => by first | (go_simp; done) | (go_simp; rfl) | rfl) ?_
      (try simp only [Act.put]); (try simp only [List.setIfInBounds_toArray, List.set_cons_zero, List.set_cons_succ])
      refine heldTake 2 _ rfl (by kernel_rfl) (by kernel_rfl) (by kernel_rfl) (fun _ _ _ h => h) rfl hS (fun wy hy => by first | (go_simp; done) | (go_simp; rfl) | rfl) ?_
      (try simp only [Act.put]); (try simp only [List.setIfInBounds_toArray, List.set_cons_zero, List.set_cons_succ])
      refine heldTake 3 _ rfl (by kernel_rfl) (by kernel_rfl) (by kernel_rfl) (fun _ _ _ h => h) rfl hS (fun wy hy => exec_valAt (g := w.heap.size) (off := 0) (cs := cs) rfl rfl HSZ.out hy.1.va) ?_
      (try simp only [Act.put]); (try simp only [List.setIfInBounds_toArray, List.set_cons_zero, List.set_cons_succ])
      refine heldTake 5 _ rfl (by kernel_rfl) (by kernel_rfl) (by kernel_rfl) (fun _ _ _ h => h) rfl hS (fun wy hy => exec_valAt (g := gx) (off := 0) (cs := c) rfl rfl HZX.out (fun j u hu => by rw [Nat.zero_add]; exact blk_cell hy.2.1.x hu)) ?_
      (try simp only [Act.put]); (try simp only [List.setIfInBounds_toArray, List.set_cons_zero, List.set_cons_succ])
      refine heldStep 4 rfl (by kernel_rfl) (fun K hK => ?_)
      go_simp
      refine (depth_any t _ cs (HTN.out.move (keep_below hS.1.b)) (by have := tdepth_much t; have := HM.out; omega)).mono ?_
      rintro e wz ⟨rfl, hbz⟩
      refine (Hid.out hK) _ _ ⟨hS.1.next hbz, hS.2.1.next hbz, hS.2.2.next hbz⟩ (fun hS2 => ?_)
      clear hK K hS hbz
      have hS := hS2
      clear hS2
      (try simp only [Act.put]); (try simp only [List.setIfInBounds_toArray, List.set_cons_zero, List.set_cons_succ])
      refine heldStep 6 rfl (by kernel_rfl) (fun K hK => ?_)
      go_simp
      refine (depth_any t' _ c hS.2.1.t (by have := tdepth_much t'; have := HM2.out; omega)).mono ?_
      rintro e wz ⟨rfl, hbz⟩
      rw [HDD.out]
      refine (Hid.out hK) _ _ ⟨hS.1.next hbz, hS.2.1.next hbz, hS.2.2.next hbz⟩ (fun hS2 => ?_)
      clear hK K hS hbz
      have hS := hS2
      clear hS2
      (try simp only [Act.put]); (try simp only [List.setIfInBounds_toArray, List.set_cons_zero, List.set_cons_succ])
      refine heldTake 7 _ rfl (by kernel_rfl) (by kernel_rfl) (by kernel_rfl) (fun _ _ _ h => h) rfl hS (fun wy hy => by first | (go_simp; done) | (go_simp; rfl) | rfl) ?_
      (try simp only [Act.put]); (try simp only [List.setIfInBounds_toArray, List.set_cons_zero, List.set_cons_succ])
      refine heldTake 8 _ rfl (by kernel_rfl) (by kernel_rfl) (by kernel_rfl) (fun _ _ _ h => h) rfl hS (fun wy hy => by first | (go_simp; done) | (go_simp; rfl) | rfl) ?_
      (try simp only [Act.put]); (try simp only [List.setIfInBounds_toArray, List.set_cons_zero, List.set_cons_succ])
      refine heldTake 9 _ rfl (by kernel_rfl) (by kernel_rfl) (by kernel_rfl) (fun _ _ _ h => h) rfl hS (fun wy hy => by first | (go_simp; done) | (go_simp; rfl) | rfl) ?_
      (try simp only [Act.put]); (try simp only [List.setIfInBounds_toArray, List.set_cons_zero, List.set_cons_succ])
      refine heldTake 10 _ rfl (by kernel_rfl) (by kernel_rfl) (by kernel_rfl) (fun _ _ _ h => h) rfl hS (fun wy hy => by first | (go_simp; done) | (go_simp; rfl) | rfl) ?_
      (try simp only [Act.put]); (try simp only [List.setIfInBounds_toArray, List.set_cons_zero, List.set_cons_succ])
      refine heldTake 11 _ rfl (by kernel_rfl) (by kernel_rfl) (by kernel_rfl) (fun _ _ _ h => h) rfl hS (fun wy hy => exec_valAt (g := w.heap.size) (off := 0) (cs := cs) rfl rfl HSZ.out hy.1.va) ?_
      (try simp only [Act.put]); (try simp only [List.setIfInBounds_toArray, List.set_cons_zero, List.set_cons_succ])
      refine heldTake 13 _ rfl (by kernel_rfl) (by kernel_rfl) (by kernel_rfl) (fun _ _ _ h => h) rfl hS (fun wy hy => exec_valAt (g := gx) (off := 0) (cs := c) rfl rfl HZX.out (fun j u hu => by rw [Nat.zero_add]; exact blk_cell hy.2.1.x hu)) ?_
      (try simp only [Act.put]); (try simp only [List.setIfInBounds_toArray, List.set_cons_zero, List.set_cons_succ])
      refine heldStep 12 rfl (by kernel_rfl) (fun K hK => ?_)
      go_simp
      refine (links_lsl t _ cs (HTN.out.move (keep_below hS.1.b)) (by have := HM.out; omega)).mono ?_
      rintro e wz ⟨v1, rfl, hl1, hbz⟩
      have HL1 := hide hl1
      clear hl1
      refine (Hid.out hK) _ _ ⟨hS.1.next hbz, hS.2.1.next hbz, hS.2.2.next hbz⟩ (fun hS2 => ?_)
      clear hK K hS hbz
      have hS := hS2
      clear hS2
      (try simp only [Act.put]); (try simp only [List.setIfInBounds_toArray, List.set_cons_zero, List.set_cons_succ])
      refine heldStep 14 rfl (by kernel_rfl) (fun K hK => ?_)
      go_simp
      refine (links_lsl t' _ c hS.2.1.t (by have := HM2.out; omega)).mono ?_
      rintro e wz ⟨v2, rfl, hl2, hbz⟩
      rw [HLL.out] at hl2
      have HL2 := hide hl2
      clear hl2
      have HL1 := hide (HL1.out.move (keep_below hbz))
      refine (Hid.out hK) _ _ ⟨hS.1.next hbz, hS.2.1.next hbz, hS.2.2.next hbz⟩ (fun hS2 => ?_)
      clear hK K hS hbz
      have hS := hS2
      clear hS2
      (try simp only [Act.put]); (try simp only [List.setIfInBounds_toArray, List.set_cons_zero, List.set_cons_succ])
      refine heldStep 15 rfl (by kernel_rfl) (fun K hK => ?_)
      go_simp
      refine (eqLinks_any HL1.out HL2.out).mono ?_
      rintro e wz ⟨rfl, hbz⟩
      rw [decide_eq_true rfl]
      refine (Hid.out hK) _ _ ⟨hS.1.next hbz, hS.2.1.next hbz, hS.2.2.next hbz⟩ (fun hS2 => ?_)
      clear hK K hS hbz
      have hS := hS2
      clear hS2
      (try simp only [Act.put]); (try simp only [List.setIfInBounds_toArray, List.set_cons_zero, List.set_cons_succ])
      refine heldTake 16 _ rfl (by kernel_rfl) (by kernel_rfl) (by kernel_rfl) (fun _ _ _ h => h) rfl hS (fun wy hy => by first | (go_simp; done) | (go_simp; rfl) | rfl) ?_
      (try simp only [Act.put]); (try simp only [List.setIfInBounds_toArray, List.set_cons_zero, List.set_cons_succ])
      refine heldTake 17 _ rfl (by kernel_rfl) (by kernel_rfl) (by kernel_rfl) (fun _ _ _ h => h) rfl hS (fun wy hy => by first | (go_simp; done) | (go_simp; rfl) | rfl) ?_
      (try simp only [Act.put]); (try simp only [List.setIfInBounds_toArray, List.set_cons_zero, List.set_cons_succ])
      refine heldTake 18 _ rfl (by kernel_rfl) (by kernel_rfl) (by kernel_rfl) (fun _ _ _ h => h) rfl hS (fun wy hy => exec_valAt (g := gs) (off := 0) (cs := cS) rfl rfl HZS.out (fun j u hu => by rw [Nat.zero_add]; exact blk_cell hy.2.2.x hu)) ?_
      (try simp only [Act.put]); (try simp only [List.setIfInBounds_toArray, List.set_cons_zero, List.set_cons_succ])
      refine heldTake 19 _ rfl (by kernel_rfl) (by kernel_rfl) (by kernel_rfl) (fun _ _ _ h => h) rfl hS (fun wy hy => exec_valAt (g := gx) (off := 0) (cs := c) rfl rfl HZX.out (fun j u hu => by rw [Nat.zero_add]; exact blk_cell hy.2.1.x hu)) ?_
      (try simp only [Act.put]); (try simp only [List.setIfInBounds_toArray, List.set_cons_zero, List.set_cons_succ])
      refine heldStep 20 rfl (by kernel_rfl) (fun K hK => ?_)
      go_simp
      refine (sorted6_any t' _ c hS.2.1.t (by have := HM2.out; omega)).mono ?_
      rintro e wz ⟨c6, s6, rfl, hs6, hn6, hbz⟩
      have hes : s6 = sS := srt_one hs6 HK2.out (trn_srt HSR.out HTK.out HTR.out)
      subst hes
      have HN6 := hide hn6.tin
      clear hn6 hs6
      refine (Hid.out hK) _ _ ⟨hS.1.next hbz, hS.2.1.next hbz, hS.2.2.next hbz⟩ (fun hS2 => ?_)
      clear hK K hS hbz
      have hS := hS2
      clear hS2
      (try simp only [Act.put]); (try simp only [List.setIfInBounds_toArray, List.set_cons_zero, List.set_cons_succ])
      refine heldStep 21 rfl (by kernel_rfl) (fun K hK => ?_)
      go_simp
      refine (eqValue_any s6 s6 true (by simp) _ cS c6 hS.2.2.t HN6.out).mono ?_
      rintro e wz ⟨rfl, hbz⟩
      refine (Hid.out hK) _ _ ⟨hS.1.next hbz, hS.2.1.next hbz, hS.2.2.next hbz⟩ (fun hS2 => ?_)
      clear hK K hS hbz
      have hS := hS2
      clear hS2
      (try simp only [Act.put]); (try simp only [List.setIfInBounds_toArray, List.set_cons_zero, List.set_cons_succ])
      refine heldTake 22 _ rfl (by kernel_rfl) (by kernel_rfl) (by kernel_rfl) (fun _ _ _ h => h) rfl hS (fun wy hy => by first | (go_simp; done) | (go_simp; rfl) | rfl) ?_
      (try simp only [Act.put]); (try simp only [List.setIfInBounds_toArray, List.set_cons_zero, List.set_cons_succ])
      refine heldTake 23 _ rfl (by kernel_rfl) (by kernel_rfl) (by kernel_rfl) (fun _ _ _ h => h) rfl hS (fun wy hy => by first | (go_simp; done) | (go_simp; rfl) | rfl) ?_
      (try simp only [Act.put]); (try simp only [List.setIfInBounds_toArray, List.set_cons_zero, List.set_cons_succ])
      refine heldTake 24 _ rfl (by kernel_rfl) (by kernel_rfl) (by kernel_rfl) (fun _ _ _ h => h) rfl hS (fun wy hy => exec_valAt (g := gs) (off := 0) (cs := cS) rfl rfl HZS.out (fun j u hu => by rw [Nat.zero_add]; exact blk_cell hy.2.2.x hu)) ?_
      (try simp only [Act.put]); (try simp only [List.setIfInBounds_toArray, List.set_cons_zero, List.set_cons_succ])
      refine heldTake 25 _ rfl (by kernel_rfl) (by kernel_rfl) (by kernel_rfl) (fun _ _ _ h => h) rfl hS (fun wy hy => exec_valAt (g := gs) (off := 0) (cs := cS) rfl rfl HZS.out (fun j u hu => by rw [Nat.zero_add]; exact blk_cell hy.2.2.x hu)) ?_
      (try simp only [Act.put]); (try simp only [List.setIfInBounds_toArray, List.set_cons_zero, List.set_cons_succ])
      refine heldStep 26 rfl (by kernel_rfl) (fun K hK => ?_)
      go_simp
      refine (sorted6_any s6 _ cS hS.2.2.t (by have := HMS.out; omega)).mono ?_
      rintro e wz ⟨c7, s7, rfl, hs7, hn7, hbz⟩
      have hes2 : s7 = s6 := srt_one hs7 HKS.out (srt_idem HSR.out)
      subst hes2
      have HN7 := hide hn7.tin
      clear hn7 hs7
      refine (Hid.out hK) _ _ ⟨hS.1.next hbz, hS.2.1.next hbz, hS.2.2.next hbz⟩ (fun hS2 => ?_)
      clear hK K hS hbz
      have hS := hS2
      clear hS2
      (try simp only [Act.put]); (try simp only [List.setIfInBounds_toArray, List.set_cons_zero, List.set_cons_succ])
      refine heldStep 27 rfl (by kernel_rfl) (fun K hK => ?_)
      go_simp
      refine (eqValue_any s7 s7 true (by simp) _ cS c7 hS.2.2.t HN7.out).mono ?_
      rintro e wz ⟨rfl, hbz⟩
      refine (Hid.out hK) _ _ ⟨hS.1.next hbz, hS.2.1.next hbz, hS.2.2.next hbz⟩ (fun hS2 => ?_)
      clear hK K hS hbz
      have hS := hS2
      clear hS2
      (try simp only [Act.put]); (try simp only [List.setIfInBounds_toArray, List.set_cons_zero, List.set_cons_succ])
      refine heldTake 28 _ rfl (by kernel_rfl) (by kernel_rfl) (by kernel_rfl) (fun _ _ _ h => h) rfl hS (fun wy hy => by first | (go_simp; done) | (go_simp; rfl) | rfl) ?_
      (try simp only [Act.put]); (try simp only [List.setIfInBounds_toArray, List.set_cons_zero, List.set_cons_succ])
      refine heldTake 29 _ rfl (by kernel_rfl) (by kernel_rfl) (by kernel_rfl) (fun _ _ _ h => h) rfl hS (fun wy hy => by first | (go_simp; done) | (go_simp; rfl) | rfl) ?_
      (try simp only [Act.put]); (try simp only [List.setIfInBounds_toArray, List.set_cons_zero, List.set_cons_succ])
      refine heldDone (by kernel_rfl) ?_
      have HSF := hide hS
      clear hS
      go_wp2_with fail
      go_meet
      case rel => exact ⟨rfl, HSF⟩
    case rest =>
      obtain ⟨rfl, HF⟩ := hcut
      obtain ⟨w13, hw13⟩ : ∃ x, x = wc := ⟨_, rfl⟩
      subst hw13
      have HRI := hide (srt_rise HSR.out HTK.out)
      have HVc : Hid (∀ j u, cS[j]? = some u → w13.cell? ⟨gs, 0 + j, none⟩ = some u) := fun j u hu => by rw [Nat.zero_add]; exact blk_cell HF.out.2.2.x hu
      go_wp2_with (refine wpList_valAt rfl rfl gs 0 cS rfl HZS.out HVc.out ?_)
      refine (rising_any sS w13 cS HF.out.2.2.t HRI.out).mono ?_
      rintro e w14 ⟨rfl, hb14⟩
      have HQ14 := hide (HF.out.1.next hb14)
      clear hb14 HF HVc
      go_wp2_with fail
      refine (wakes_any w14 (HT.out.next HQ14.out.b)).mono ?_
      rintro e w15 ⟨rfl, hb15⟩
      have HQ15 := hide (HQ14.out.next hb15)
      clear hb15
      go_wp2_with fail
      go_ret
      exact ⟨rfl, HQ15.out.b⟩
end
section
open Go.ChangeShapes Go.WideShapes Go.ChangeAt Go.RowKit Go.Deep Go.Joins Go
theorem Tryd.cellsTurn : Tryd.prog.cellsOf 31 = 14 := by kernel_rfl
set_option maxRecDepth 100000 in
theorem turn_open {H : Type} {enc : TypeId × Value → H} {w : World} {base b0 : Nat} {r : Reach} {held : Bool} {v : Value} {d : DataW H} {p : List MemPlace} (hv : Value.okWide Tryd.prog w r b0 31 v) (h : DataW.Trod enc Tryd.prog w base (fun _ => true) held 31 v d p) (hW : (d.weights Tryd.prog 31).all (· ≤ reachBytes) = true) : ∃ (cs : Array Value) (N : Int) (t : Tv), v = .agg (cs.push (.int .i64 N)) ∧ Tin w t cs := by
  obtain ⟨cp, rfl, hsz⟩ := okWide_struct Tryd.underlying31 hv
  rw [Tryd.cellsTurn] at hsz
  obtain ⟨l⟩ := cp
  simp at hsz
  match l, hsz with
  | [c0, c1, c2, c3, c4, c5, c6, c7, c8, c9, c10, c11, c12, c13], _ =>
    obtain ⟨fuel, hf⟩ := h
    obtain ⟨y0, y1, n, hx, _, e0, e1⟩ := trod_struct2 Tryd.underlying31 hf
    have g0 : DataW.trod enc Tryd.prog w base (fun _ => true) held n 29 [c0, c1, c2, c3, c4, c5, c6, c7, c8, c9, c10, c11, c12] = some y0 := by simpa [Value.cells, Tryd.cellsValue] using e0
    have g1 : DataW.trod enc Tryd.prog w base (fun _ => true) held n 3 [c13] = some y1 := by simpa [Value.cells, Tryd.cellsValue, Tryd.cells_int] using e1
    obtain ⟨n0, f0, _, _⟩ := DataW.trod_int (fuel := n) (cs := [c13]) Tryd.underlying3 g1
    have hd : d = .agg [y0.1, y1.1] := by simp only [Prod.mk.injEq] at hx; exact hx.1
    have hWE : (DataW.weightsEach Tryd.prog [29, 3] [y0.1, y1.1]).all (· ≤ reachBytes) = true := by
      rw [hd] at hW
      simp only [DataW.weights, Tryd.underlying31] at hW
      exact hW
    obtain ⟨t, ht⟩ := value_open n _ y0 g0 (weight_each hWE (j := 0) rfl rfl)
    simp at f0
    subst f0
    exact ⟨#[c0, c1, c2, c3, c4, c5, c6, c7, c8, c9, c10, c11, c12], _, t, rfl, ht⟩
end
section
open Go.ChangeShapes Go.WideShapes Go.ChangeAt Go.RowKit Go.Deep Go.Joins
set_option maxRecDepth 100000 in
theorem vturned_lifted (os : Os) (started : os.Started) (H : Type) (enc : TypeId × Value → H) :
    ReturnsInHanded {} Tryd.checked os 3 .any (fun w args => (Rows.valueTurnedSpec.pre enc Tryd.prog Tryd.f3 Rows.valueTurnedRow.domain false w args ∧ laidMet Tryd.prog Rows.valueTurnedRow.laid w) ∧ sizedMet enc Tryd.prog Tryd.f3 (OpenSpec.ofChange Rows.valueTurnedSpec) false w args)
      (Rows.valueTurnedSpec.post enc Tryd.prog Tryd.f3 false true false false) := by
  refine returnsInHanded_of_change_and (C := Tryd.checked) (X := fun w _ => laidMet Tryd.prog Rows.valueTurnedRow.laid w) (fun _ _ _ hh h => h.of_heap hh) Tryd.own started (by kernel_rfl) Tryd.func3
    (ChangeSpec.witness_at (enc := enc) (C := Tryd.checked) (os := os) (X := fun w _ => laidMet Tryd.prog Rows.valueTurnedRow.laid w) false (laidWorld6 os) #[.agg #[.int .i64 0, .bool false, .bool false, .int .u64 0, .int .u64 0, .string ⟨#[]⟩, .slice none 0 0, .int .i64 0, .int .u64 0, .int .u64 0, .string ⟨#[]⟩, .slice none 0 0, .slice none 0 0, .int .i64 0]] 8 rfl (by kernel_rfl) (by kernel_rfl) (by kernel_rfl) (by kernel_rfl) (by kernel_rfl) (laid_met6 os _)) ?_
  intro W base args ds gs before hval0 hW _ hsz0 hLd _
  have hval : ∀ (j : Nat) t v, Tryd.f3.params[j]? = some t → args[j]? = some v → Value.okWide Tryd.prog W .any base t v := hval0
  have hsz : (DataW.weightsEach Tryd.prog (Tryd.f3.params.toList ++ Rows.valueTurnedSpec.plain.varTypes Tryd.prog) (ds ++ gs)).all (· ≤ reachBytes) = true := hsz0
  have hW' := hW
  have hcb : Tabs W := tabs_of_laid hLd
  obtain ⟨p, q, hA0, hV, rfl, hfz, hnd⟩ := hW
  have hA : DataW.TrodAll enc Tryd.prog W 0 (fun _ => true) true Tryd.f3.params.toList args.toList ds p := hA0
  rw [Tryd.params3] at hA hval hsz
  obtain ⟨v0, d0, rfl, rfl, h0⟩ := trodAll_one hA
  obtain ⟨rfl, rfl⟩ := trodVars_none hV
  have k0 := h0
  have lt0 : ∀ x ∈ p, x.block < W.heap.size := by obtain ⟨m, hm⟩ := k0; exact DataW.trod_lt m _ _ _ hm
  have hwalk : Calls Tryd.prog 3 #[v0] W fun e w' => e = .returned (.bool true) ∧ Below W.heap.size W w' := by
    have hs1 : (d0.weights Tryd.prog 31).all (· ≤ reachBytes) = true := by
      have e : DataW.weightsEach Tryd.prog ([31] ++ Rows.valueTurnedSpec.plain.varTypes Tryd.prog) ([d0] ++ []) = d0.weights Tryd.prog 31 ++ DataW.weightsEach Tryd.prog (Rows.valueTurnedSpec.plain.varTypes Tryd.prog) [] := rfl
      rw [e, List.all_append, Bool.and_eq_true] at hsz
      exact hsz.1
    obtain ⟨cs, N, t, rfl, ht⟩ := turn_open (hval 0 31 v0 rfl rfl) h0 hs1
    exact vturned_any W cs N t ht hcb
  clear hA0 hval0
  refine hwalk.mono fun e W' ⟨he, bel⟩ => ?_
  subst he
  exact ⟨_, rfl, _, _, _, [], _, [], hW', trodAll_mk1 (shut_bool Tryd.underlying4 _), trodAll_mk1 (Below.trod Tryd.laidOut (by kernel_rfl) (of_decide_eq_true (by kernel_rfl)) k0 bel lt0), rfl, bel.frame _, fun h => by cases h⟩

theorem vturned_row : Rows.ValueTurnedSaid :=
  OpenClaim.holds_of_wide 3 Tryd.f3 rfl rfl rfl rfl rfl rfl rfl ⟨rfl, rfl, rfl, rfl, rfl⟩ rfl rfl rfl rfl rfl (by kernel_rfl) Tryd.func3 (by kernel_rfl)
    (of_decide_eq_true (by kernel_rfl)) (by unfold Func.isWrapper; first | (rw [if_pos (by decide +kernel)]; kernel_rfl) | (rw [if_neg (by decide +kernel)]; exact ⟨rfl, rfl⟩))
    (fun os started H enc _ => vturned_lifted os started H enc)

theorem vturned_holds : Rows.ValueTurnedCardSaid :=
  Claim7.holds_tied_plain_at .later [] [.data, .pinned] true (true, "c3b5d75da8264cfe2a43bd4922afda82fb4d9f1c27894df3f60246eb69fb2251") false
    vturned_row (fun _ h => by cases h) (by kernel_rfl) (fun _ h => by cases h) valueTurned_row_tie rfl ⟨rfl, rfl⟩ (by kernel_rfl) rfl
    (fun f fn hf hfn => by
      obtain rfl : f = 3 := Option.some.inj ((show Tryd.prog.funcNamed "trellis/trellislaw6.ValueTurned" = some 3 by kernel_rfl).symm.trans hf) |>.symm
      obtain rfl : fn = Tryd.f3 := (Option.some.inj (Tryd.func3.symm.trans hfn)).symm
      exact ⟨by kernel_rfl, fun j t ht => by
        rw [Tryd.params3] at ht
        have h3 : t = 31 := by
          rcases j with _ | j
          · simpa using ht.symm
          · simp at ht
        subst h3
        exact (show Tryd.prog.wantsStandIn 31 = false by kernel_rfl)⟩)
    (by kernel_rfl)
#print axioms vturned_holds
end
end Go.Proofs.YtibcepokeaaoiabDoor
