import Derived.Test.YtidglddjinfncaaDoorJn
import Derived.Test.YtidglddjinfncaaDoorTie
import Derived.Test.YtidglddjinfncaaDoorCards
import Derived.ProofKit
namespace Go.Proofs.YtidglddjinfncaaDoor
section
open Go.RowKit Go
/-- What a walk over links has in hand. -/
structure Lks (w wx : World) (c : Array Value) : Prop where
  t : wx.heap[w.heap.size]? = some (.cells c 28 (0, 0))
  b : Below w.heap.size w wx
  c : Cb wx
theorem Lks.below {w wx wy : World} {c : Array Value} (h : Lks w wx c) (hb : Below wx.heap.size wx wy) : Lks w wy c := ⟨(hb.block _ (blk_lt h.t)).trans h.t, h.b.trans (hb.mono h.b.size), h.c.below hb⟩
theorem Lks.start {w : World} (c : Array Value) (hcb : Cb w) : Lks w (w.alloc (.cells c 28)) c := ⟨heap_alloc_new w _, below_alloc4 w _, hcb.below (below_alloc4 w _)⟩
/-- A link somewhere in a block. -/
theorem load_lk {w : World} (g o : Nat) (l : Lk) (hc : ∀ j u, (lcs l)[j]? = some u → w.cell? ⟨g, o + j, none⟩ = some u) : (Instr.loadAt 35 (.pointer (some ⟨g, o, none⟩))).run Tryd.prog w = .ok (.agg (lcs l)) w := by
  have hl := run_loadCells_list (P := Tryd.prog) (w := w) ⟨g, o, none⟩ (lcs l).toList (fun j v hv => by rw [addr_add]; exact hc j v (by simpa using hv))
  have hi := info61
  simp only [Instr.loadAt, Instr.sureAddr, Sem.run_bind, Sem.run_pure, Result.andThen]
  cases hq : Tryd.prog.info? 35 with
  | none => simp [hq] at hi
  | some i =>
    have hs : i.size = 4 := by simpa [hq] using hi
    have hn : (lcs l).toList.length = 4 := rfl
    rw [hn] at hl
    have ha : (isAgg 35).run Tryd.prog w = .ok true w := by
      unfold isAgg
      rw [Sem.run_bind, run_underlying Tryd.underlying35 w]
      simp
    simp [loadVar, ha, sizeOf, typeInfo, hq, hs, hl]
theorem qstep_lkAt {C : World → Prop} {ops : Array Oper} {o : Oper} {a : Act} {K : Act → Prop} {p : Operand} (hgd : Region.wanted o (yielded ops a.tmps) = true) (ho : o.op = .load 35 p) (g off : Nat) (l : Lk)
    (hp : a.eval p = .pointer (some ⟨g, off, none⟩)) (hc : ∀ w, C w → ∀ j u, (lcs l)[j]? = some u → w.cell? ⟨g, off + j, none⟩ = some u)
    (h : K (a.put o.dst (.agg (lcs l)))) : if Region.wanted o (yielded ops a.tmps) = true then o.quiet Tryd.prog a C K else K (a.put o.dst undef) := by
  rw [if_pos hgd]
  refine ⟨.agg (lcs l), fun w hC => ?_, h⟩
  unfold Oper.quietAt execOp
  simp only [ho, Sem.run_bind, hp, load_lk g off l (hc w hC), Result.andThen_ok]
  exact ⟨rfl, rfl⟩
theorem wpList_lkAt {ops : Array Oper} {rest : List Oper} {o : Oper} {a : Act} {Q : Exit → Act → World → Prop} {w : World} {p : Operand} (hgd : Region.wanted o (yielded ops a.tmps) = true) (ho : o.op = .load 35 p) (g off : Nat) (l : Lk)
    (hp : a.eval p = .pointer (some ⟨g, off, none⟩)) (hc : ∀ j u, (lcs l)[j]? = some u → w.cell? ⟨g, off + j, none⟩ = some u)
    (h : wpList Tryd.prog ops Q rest (a.put o.dst (.agg (lcs l))) w) : wpList Tryd.prog ops Q (o :: rest) a w := by
  refine wpList_wanted hgd fun K hK => ?_
  unfold Oper.wp execOp
  simp only [ho, Sem.run_bind, hp, load_lk g off l hc, Result.andThen_ok]
  exact hK _ _ h
/-- The reference's Less. -/
theorem refLess_any (w : World) (a b : Lk) (ha : Lkb a) (hb : Lkb b) : Calls Tryd.prog 24 #[lkv a, lkv b] w fun e w' => e = .returned (.bool (llt a b)) ∧ Below w.heap.size w w' := by
  have h := lLess_any w a.v a.c a.h (nstr a.d) b.v b.c b.h (nstr b.d) ha.h (by rw [ha.size]; exact ha.n) hb.h (by rw [hb.size]; exact hb.n)
  unfold lb at h
  rw [sl_nstr ha.d, sl_nstr hb.d] at h
  exact h
set_option maxRecDepth 1000000 in
set_option maxHeartbeats 2000000 in
theorem order_any (w : World) (aL : Option Addr) (nL cL : Nat) (v1 v2 v3 v4 : Value) (hcb : Cb w) (hL : LinksIn w (.slice aL nL cL) nL) :
    Calls Tryd.prog 5 #[.agg #[.slice aL nL cL, v1, v2, v3, v4]] w fun e w' => e = .returned (.bool true) ∧ Below w.heap.size w w' := by
  have HX0 := hide (Lks.start #[.slice aL nL cL, v1, v2, v3, v4] hcb)
  have HL := hide hL
  have hmx := hL.max
  clear hcb hL
  go_enter Tryd.func5, Tryd.ntmps5
  go_wp2_with fail
  generalize w.alloc (.cells #[.slice aL nL cL, v1, v2, v3, v4] 28) = w0 at *
  refine (begun4_any w0 HX0.out.c).mono ?_
  rintro e w1 ⟨rfl, hb1⟩
  have HX1 := hide (HX0.out.below hb1)
  clear hb1 HX0
  go_wp2_with fail
  go_loopw [3] (fun ii wx => ∃ i : Nat, i ≤ 60 ∧ ii = .int .i64 (i : Nat) ∧ Hid (Lks w wx #[.slice aL nL cL, v1, v2, v3, v4])) (fun ii _ => 60 - (intOf ii).toNat)
  case atStart => exact ⟨0, by omega, rfl, HX1⟩
  case round =>
    obtain ⟨i, hi, rfl, HX⟩ := hrel
    clear HX1
    have q0 : wr.cell? ⟨w.heap.size, 0, none⟩ = some (.slice aL nL cL) := blk_cell HX.out.t rfl
    by_cases hil : i < nL ∧ i < 60
    · obtain ⟨hil, hi60⟩ := hil
      have g1 : (i : Int) < (nL : Int) := by omega
      have g2 : (i : Int) < 60 := by omega
      obtain ⟨a', cap', hv, hform⟩ := HL.out.form
      injection hv with e1 e2 e3
      subst e1
      obtain ⟨b, off, rfl, hcells⟩ := hform.resolve_left (by omega)
      obtain ⟨li, hli, hci⟩ := hcells i hil
      have HLI := hide hli
      have HCI := hide hci
      have HCS := hide hcells
      clear hform hcells hli hci e2 e3
      go_wp2_with fail
      go_loopw [4] (fun kk wx => ∃ k : Nat, k ≤ 60 ∧ kk = .int .i64 (k : Nat) ∧ Hid (Lks w wx #[.slice (some ⟨b, off, none⟩) nL cL, v1, v2, v3, v4])) (fun kk _ => 60 - (intOf kk).toNat)
      case atStart => exact ⟨0, by omega, rfl, HX⟩
      case round => as_aux_lemma =>
        rename World => wz
        obtain ⟨k, hk, rfl, HY⟩ := hrel
        clear HX q0
        have q0 : wz.cell? ⟨w.heap.size, 0, none⟩ = some (.slice (some ⟨b, off, none⟩) nL cL) := blk_cell HY.out.t rfl
        by_cases hkl : k < nL ∧ k < 60
        · obtain ⟨hkl, hk60⟩ := hkl
          have g3 : (k : Int) < (nL : Int) := by omega
          have g4 : (k : Int) < 60 := by omega
          obtain ⟨lk, hlk, hck⟩ := HCS.out k hkl
          go_wp2_with fail
          have k0 : ∀ t : Ext wz, t.w'.cell? ⟨w.heap.size, 0, none⟩ = some (.slice (some ⟨b, off, none⟩) nL cL) := fun t => Ext.cell q0 t
          have HQI : Hid (∀ wx, (∃ t : Ext wz, wx = t.w') → ∀ j u, (lcs li)[j]? = some u → wx.cell? ⟨b, off + i * 4 + j, none⟩ = some u) := by
            rintro _ ⟨t, rfl⟩ j u hu
            exact keep_below t.h _ _ (keep_below HY.out.b _ _ (HCI.out j u hu))
          have HQK : Hid (∀ wx, (∃ t : Ext wz, wx = t.w') → ∀ j u, (lcs lk)[j]? = some u → wx.cell? ⟨b, off + k * 4 + j, none⟩ = some u) := by
            rintro _ ⟨t, rfl⟩ j u hu
            exact keep_below t.h _ _ (keep_below HY.out.b _ _ (hck j u hu))
          have HC1 : Hid (∀ t : Ext wz, Calls Tryd.prog 23 #[.agg (lcs li), .agg (lcs lk)] t.w' fun e w'' => e = .returned (.bool (llt li lk)) ∧ ∃ t' : Ext wz, w'' = t'.w') := fun t => Calls.ext_below (less4_any t.w' li lk HLI.out hlk)
          have HC2 : Hid (∀ t : Ext wz, Calls Tryd.prog 24 #[.agg (lcs li), .agg (lcs lk)] t.w' fun e w'' => e = .returned (.bool (llt li lk)) ∧ ∃ t' : Ext wz, w'' = t'.w') := fun t => Calls.ext_below (refLess_any t.w' li lk HLI.out hlk)
          generalize llt li lk = lt at *
          refine region_ext (by kernel_rfl) (by kernel_rfl) ?_
          repeat (
            refine wpQuiet_step (fun K hK => ?_)
            first
              | (refine qstep_lkAt rfl rfl b (off + i * 4) li rfl HQI.out (hK _ ?_); clear hK K)
              | (refine qstep_lkAt rfl rfl b (off + k * 4) lk rfl HQK.out (hK _ ?_); clear hK K)
              | (go_simp
                 first
                   | (refine hK _ ?_; clear hK K)
                   | (apply Exists.intro
                      refine ⟨fun _ => ?_, hK _ ?_⟩
                      (first
                        | (go_at_call 23; exact HC1.out _)
                        | (go_at_call 24; exact HC2.out _))
                      clear hK K)))
          refine wpQuiet_nil ?_
          rintro _ ⟨tq, rfl⟩
          have HZ := hide (HY.out.below tq.h)
          go_wp2_with fail
          go_roundw
          case rel => exact ⟨k + 1, by omega, by go_num, HZ⟩
          case measure => simp [intOf]; omega
        · by_cases h3 : k < nL
          · have g3 : (k : Int) < (nL : Int) := by omega
            have g4 : ¬ (k : Int) < 60 := by omega
            go_wp2_with fail
            go_roundw
            case rel => exact ⟨i + 1, by omega, by go_num, HY⟩
            case measure => simp [intOf]; omega
          · have g3 : ¬ (k : Int) < (nL : Int) := by omega
            go_wp2_with fail
            go_roundw
            case rel => exact ⟨i + 1, by omega, by go_num, HY⟩
            case measure => simp [intOf]; omega
    · by_cases h3 : i < nL
      · have g3 : (i : Int) < (nL : Int) := by omega
        have g4 : ¬ (i : Int) < 60 := by omega
        go_wp2_with fail
        refine (begun4_any wr HX.out.c).mono ?_
        rintro e w9 ⟨rfl, hb9⟩
        have HB9 := hide (HX.out.below hb9).b
        clear hb9
        go_wp2_with fail
        go_ret
        exact ⟨rfl, HB9.out⟩
      · have g3 : ¬ (i : Int) < (nL : Int) := by omega
        go_wp2_with fail
        refine (begun4_any wr HX.out.c).mono ?_
        rintro e w9 ⟨rfl, hb9⟩
        have HB9 := hide (HX.out.below hb9).b
        clear hb9
        go_wp2_with fail
        go_ret
        exact ⟨rfl, HB9.out⟩
end
section
open Go.RowKit Go
theorem lthird_bad {v : Int} {c a : Nat} {b : List Nat} (h : (lthird v c a b).2.2 ≠ 0) : (lthird v c a b).1 = Lk.none ∧ (lthird v c a b).2.1 = 0 := by
  unfold lthird at h ⊢
  split
  · rename_i h0
    rw [if_pos h0] at h
    exact absurd rfl h
  · exact ⟨rfl, rfl⟩
theorem lfirst_bad {b : List Nat} (h : (lfirst b).2.2 ≠ 0) : (lfirst b).1 = Lk.none ∧ (lfirst b).2.1 = 0 := by
  unfold lfirst at h ⊢
  split
  · rename_i h0
    rw [if_pos h0] at h
    exact lthird_bad h
  · rename_i h0
    rw [if_neg h0] at h
    split
    · exact ⟨rfl, rfl⟩
    · rename_i h1
      rw [if_neg h1] at h
      split
      · exact ⟨rfl, rfl⟩
      · rename_i h2
        rw [if_neg h2] at h
        split
        · exact ⟨rfl, rfl⟩
        · rename_i h3
          rw [if_neg h3] at h
          exact lthird_bad h
theorem lbytes_d {l : Lk} {b : List Nat} (hb : ∀ x ∈ b, x < 256) (e : lbytes l = b) : ∀ x ∈ l.d, x < 256 := fun x hx => hb x (by
  rw [← e]
  unfold lbytes
  split
  · simp [hx]
  · simp [hx])
theorem lok_lkb {l : Lk} (h : lok l) (hd : ∀ x ∈ l.d, x < 256) : Lkb l := by
  have hk := lok_okd h
  unfold okd at hk
  refine ⟨?_, by omega, hd, by omega⟩
  rcases h with h | h
  · omega
  · omega
theorem lparsetext_bad {s : List Nat} (h : (lparsetext s).2 ≠ 0) : (lparsetext s).1 = Lk.none := by
  unfold lparsetext at h ⊢
  split
  · rfl
  · rename_i h1
    rw [if_neg h1] at h
    split
    · rfl
    · rename_i h2
      rw [if_neg h2] at h
      cases ht : ltake s with
      | none => rfl
      | some p =>
        obtain ⟨v, b⟩ := p
        rw [ht] at h
        simp only at h ⊢
        split
        · rfl
        · rename_i h3
          rw [if_neg h3] at h
          split
          · rfl
          · rename_i h4
            rw [if_neg h4] at h
            exact absurd rfl h
/-- Whether one of the first texts is this one. -/
def fnd (l : Lk) (s : List Nat) : Nat → Bool
  | 0 => decide ((lttx l).1 = s)
  | k + 1 => fnd l s k || (decide ((ltin l ((k + 1 : Nat) : Int)).2 = 0) && decide ((ltin l ((k + 1 : Nat) : Int)).1 = s))
theorem fnd_mono {l : Lk} {s : List Nat} {k : Nat} (h : fnd l s k = true) : ∀ m, fnd l s (k + m) = true
  | 0 => h
  | m + 1 => by
    show (fnd l s (k + m) || _) = true
    rw [fnd_mono h m]
    rfl
theorem fnd_all {l : Lk} {s : List Nat} (h : lparsetext s = (l, 0)) : fnd l s 3 = true := by
  obtain ⟨hk, hd, h1 | ⟨hv, base, hb1, hb3, hs⟩⟩ := lparsetext_back h
  · have e : fnd l s 0 = true := by
      show decide ((lttx l).1 = s) = true
      unfold lttx
      rw [if_pos hk, h1]
      simp
    exact fnd_mono e 3
  · have hv0 : l.v ≠ 0 := by omega
    have e : fnd l s base = true := by
      obtain ⟨k, rfl⟩ : ∃ k, base = k + 1 := ⟨base - 1, by omega⟩
      show (fnd l s k || (decide ((ltin l ((k + 1 : Nat) : Int)).2 = 0) && decide ((ltin l ((k + 1 : Nat) : Int)).1 = s))) = true
      rw [ltin_text hk hv0 (n := k + 1) (by omega), hs]
      simp
    have : fnd l s (base + (3 - base)) = true := fnd_mono e _
    have e2 : base + (3 - base) = 3 := by omega
    rwa [e2] at this
theorem eq_str {xs : List Nat} (hx : ∀ x ∈ xs, x < 256) (s : ByteArray) : ((nstr xs).toList == s.toList) = decide (xs = sl s) := by
  have e : s = nstr (sl s) := (nstr_sl s).symm
  by_cases h : xs = sl s
  · rw [h, nstr_sl]
    simp
  · rw [decide_eq_false h, beq_eq_false_iff_ne]
    intro h2
    rw [e] at h2
    exact h (nstr_inj hx (sl_byte s) h2)
theorem lttx_byte {l : Lk} : ∀ x ∈ (lttx l).1, x < 256 := by
  unfold lttx
  split
  · intro x hx
    simp only at hx
    unfold ltext at hx
    split at hx
    · have h := btext_byte b58 (lbytes l)
      rw [btext58] at h
      exact h x hx
    · have h := btext_byte b32 (lbytes l)
      rw [btext32] at h
      unfold ltextin at hx
      rw [if_neg (by decide), if_pos rfl] at hx
      rcases List.mem_cons.1 hx with e | e
      · omega
      · exact h x e
  · simp
theorem ltin_byte {l : Lk} {n : Int} : ∀ x ∈ (ltin l n).1, x < 256 := by
  unfold ltin
  split
  · split
    · simp
    · intro x hx
      rcases List.mem_append.1 hx with e | e
      · exact sl_byte _ x e
      · exact btext_byte _ _ x e
  · simp
/-- What the second half of LinkOne has in hand is what the first has. -/
theorem zlk_none : lcs Lk.none = #[.int .i64 0, .int .u64 0, .int .u64 0, .string ⟨#[]⟩] := rfl
end
section
open Go.RowKit Go
set_option maxRecDepth 1000000 in
set_option maxHeartbeats 1000000 in
theorem begins4_any (w : World) (v u : Value) (xs ys : List Nat) (h1 : BSl w v xs) (h2 : BSl w u ys) :
    Calls Tryd.prog 32 #[v, u] w fun e w' => e = .returned (.bool (decide (xs.length ≤ ys.length) && decide (xs = ys.take xs.length))) ∧ Below w.heap.size w w' := by
  have H1 := hide h1
  have H2 := hide h2
  obtain ⟨⟨a, cap, rfl, hn, _⟩, hm1, _⟩ := h1
  obtain ⟨⟨a2, cap2, rfl, hn2, _⟩, hm2, _⟩ := h2
  have hc2 := hn2.1
  clear hn hn2
  by_cases hl : xs.length ≤ ys.length
  · have g1 : (xs.length : Int) ≤ (ys.length : Int) := by omega
    have g2 : (xs.length : Int) ≤ (cap2 : Int) := by omega
    have HT := hide (H2.out.take xs.length hl)
    have HZ : Hid (decide (xs.length ≤ ys.length) = true) := decide_eq_true hl
    rw [HZ.out, Bool.true_and]
    clear hl
    go_enter Tryd.func32, Tryd.ntmps32
    go_wp2_with fail
    refine (eq_any w _ _ _ _ H1.out HT.out).mono ?_
    rintro e w1 ⟨rfl, hk⟩
    have HB : Hid (Below w.heap.size w w1) := hk.below (Nat.le_refl _) (fun _ h => h.elim)
    clear hk
    generalize hq : decide (xs = ys.take xs.length) = q at *
    have HQ := hide hq
    clear hq
    go_wp2_with fail
    go_ret
    exact ⟨by rw [HQ.out]; rfl, HB.out⟩
  · have g1 : ¬ (xs.length : Int) ≤ (ys.length : Int) := by omega
    rw [decide_eq_false hl, Bool.false_and]
    clear hl
    go_enter Tryd.func32, Tryd.ntmps32
    go_wp2_with fail
    go_ret
    exact ⟨rfl, Below.refl _ _⟩
theorem qstep_nelk {C : World → Prop} {ops : Array Oper} {o : Oper} {a : Act} {K : Act → Prop} {x y : Operand} {T2 : TypeId} (hgd : Region.wanted o (yielded ops a.tmps) = true) (ho : o.op = .binOp .neq 35 x y T2) (A B : Array Value) (r : Bool)
    (hx : a.eval x = .agg A) (hy : a.eval y = .agg B) (he : ∀ w, C w → (Op.equalIn 10000 35 (.agg A) (.agg B)).run Tryd.prog w = .ok r w)
    (h : K (a.put o.dst (.bool (!r)))) : if Region.wanted o (yielded ops a.tmps) = true then o.quiet Tryd.prog a C K else K (a.put o.dst undef) := by
  rw [if_pos hgd]
  refine ⟨.bool (!r), fun w hC => ?_, h⟩
  unfold Oper.quietAt
  rw [exec_nelk ho hx hy (he w hC)]
  exact ⟨rfl, rfl⟩
theorem ltext_first {l : Lk} (h : lok l) (hd : ∀ x ∈ l.d, x < 256) : (ltext l).getD 0 0 = if l.v = 0 then 81 else 98 := by
  by_cases hv : l.v = 0
  · obtain ⟨s, e⟩ := of58_old h hv hd
    unfold ltext
    rw [if_pos hv, if_pos hv, e]
    rfl
  · unfold ltext
    rw [if_neg hv, if_neg hv]
    rfl
theorem ltextin_first (l : Lk) (n : Nat) (hn : n = 1 ∨ n = 2 ∨ n = 3) : (ltextin l n).getD 0 0 = if n = 1 then 102 else if n = 2 then 98 else 122 := by
  rcases hn with rfl | rfl | rfl <;> rfl
theorem ltext_pos {l : Lk} (h : lok l) (hd : ∀ x ∈ l.d, x < 256) : 0 < (ltext l).length := by
  have := ltext_first h hd
  cases ht : ltext l with
  | nil => rw [ht] at this; simp at this; split at this <;> omega
  | cons x r => simp
theorem ltextin_pos (l : Lk) (n : Nat) : 0 < (ltextin l n).length := by
  unfold ltextin
  split
  · simp
  · split
    · simp
    · simp
theorem ltext_byte {l : Lk} (h : lok l) : ∀ x ∈ ltext l, x < 256 := by
  have := lttx_byte (l := l)
  unfold lttx at this
  rw [if_pos h] at this
  exact this
theorem ltextin_byte {l : Lk} (h : lok l) (hv : l.v ≠ 0) {n : Nat} (hn : n = 1 ∨ n = 2 ∨ n = 3) : ∀ x ∈ ltextin l n, x < 256 := by
  have := ltin_byte (l := l) (n := (n : Nat))
  rw [ltin_text h hv hn] at this
  exact this
end
section
open Go.RowKit Go
/-- What texts has in hand: the link's block, and another one. -/
structure Tx (w wx : World) (g : Nat) (l : Lk) (o : Lk) : Prop where
  t : wx.heap[w.heap.size]? = some (.cells (lcs l) 35 (0, 0))
  x : wx.heap[g]? = some (.cells (lcs o) 35 (0, 0))
  b : Below w.heap.size w wx
  g : w.heap.size < g
theorem Tx.below {w wx wy : World} {g : Nat} {l o : Lk} (h : Tx w wx g l o) (hb : Below wx.heap.size wx wy) : Tx w wy g l o := ⟨(hb.block _ (blk_lt h.t)).trans h.t, (hb.block _ (blk_lt h.x)).trans h.x, h.b.trans (hb.mono h.b.size), h.g⟩
theorem Tx.set {w wx : World} {g : Nat} {l o : Lk} (h : Tx w wx g l o) (n : Lk) : Tx w (wx.setRow g (lcs n)) g l n := by
  have hg := h.g
  exact ⟨(row_other (by omega)).trans h.t, row_same h.x, h.b.trans ((row_kp _ _ _).below h.b.size (fun q e => by omega)), h.g⟩
set_option maxRecDepth 1000000 in
set_option maxHeartbeats 2000000 in
theorem texts0_any (w : World) (c h : Nat) (d : List Nat) (hlk : lok ⟨0, c, h, d⟩) (hl : Lkb ⟨0, c, h, d⟩) : Calls Tryd.prog 30 #[.agg #[.int .i64 0, .int .u64 (c : Nat), .int .u64 (h : Nat), .string (nstr d)]] w fun e w' => e = .returned (.bool true) ∧ Below w.heap.size w w' := by
  have HL := hide hl
  have HLK := hide hlk
  have HEQ : Hid (∀ w, (Op.equalIn 10000 35 (.agg (lcs ⟨0, c, h, d⟩)) (.agg (lcs ⟨0, c, h, d⟩))).run Tryd.prog w = .ok true w) := fun w => by
    have hh := eqlk w (a := ⟨0, c, h, d⟩) (b := ⟨0, c, h, d⟩) hl.d hl.d
    rw [decide_eq_true rfl] at hh
    exact hh
  have HT : Hid ((w.alloc (.cells #[.int .i64 0, .int .u64 (c : Nat), .int .u64 (h : Nat), .string (nstr d)] 35)).heap[w.heap.size]? = some (.cells (lcs ⟨0, c, h, d⟩) 35 (0, 0))) := heap_alloc_new w _
  have HB := hide (below_alloc4 w (.cells #[.int .i64 0, .int .u64 (c : Nat), .int .u64 (h : Nat), .string (nstr d)] 35))
  have HTS : Hid ((nstr (ltext ⟨0, c, h, d⟩)).size = (ltext ⟨0, c, h, d⟩).length) := nstr_size (ltext_byte hlk)
  have HTL := hide (ltext_len hlk hl.d)
  have HTP := hide (ltext_pos hlk hl.d)
  have HT0 : Hid (∀ h0 : 0 < (nstr (ltext ⟨0, c, h, d⟩)).size, (nstr (ltext ⟨0, c, h, d⟩))[0].toNat = 81) := fun h0 => by rw [nstr_at (ltext_byte hlk), ltext_first hlk hl.d]; rfl
  have HTX : Hid (∀ w0, Calls Tryd.prog 9 #[.agg #[.int .i64 0, .int .u64 (c : Nat), .int .u64 (h : Nat), .string (nstr d)]] w0 fun e w' => e = .returned (.tuple #[.string (nstr (ltext ⟨0, c, h, d⟩)), .int .i64 0]) ∧ Below w0.heap.size w0 w') := fun w0 => by
    have hh := text4_any w0 ⟨0, c, h, d⟩ hl
    have e : lttx ⟨0, c, h, d⟩ = (ltext ⟨0, c, h, d⟩, 0) := by unfold lttx; rw [if_pos hlk]
    rw [e] at hh
    exact hh
  have HPT : Hid (∀ w0, Calls Tryd.prog 15 #[.string (nstr (ltext ⟨0, c, h, d⟩))] w0 fun e w' => e = .returned (.tuple #[.agg #[.int .i64 0, .int .u64 (c : Nat), .int .u64 (h : Nat), .string (nstr d)], .int .i64 0]) ∧ Below w0.heap.size w0 w') := fun w0 => by
    have hh := parsetext_any w0 (nstr (ltext ⟨0, c, h, d⟩)) (by rw [HTS.out]; have := HTL.out; omega)
    rw [sl_nstr (ltext_byte hlk), lparsetext_text hlk hl.d] at hh
    exact hh
  clear hlk hl
  go_enter Tryd.func30, Tryd.ntmps30
  go_wp2_with fail
  generalize w.alloc (.cells #[.int .i64 0, .int .u64 (c : Nat), .int .u64 (h : Nat), .string (nstr d)] 35) = w0 at *
  refine (HTX.out w0).mono ?_
  rintro e w1 ⟨rfl, hb1⟩
  have HB1 : Hid (Below w.heap.size w w1) := HB.out.trans (hb1.mono HB.out.size)
  have HT1 : Hid (w1.heap[w.heap.size]? = some (.cells (lcs ⟨0, c, h, d⟩) 35 (0, 0))) := (hb1.block _ (blk_lt HT.out)).trans HT.out
  clear hb1 HB HT HTX
  generalize nstr (ltext ⟨0, c, h, d⟩) = S1 at *
  go_wp2_with fail
  refine (HPT.out w1).mono ?_
  rintro e w2 ⟨rfl, hb2⟩
  clear HPT
  have HX3 : Hid (Tx w (w2.alloc (.cells #[.int .i64 0, .int .u64 (c : Nat), .int .u64 (h : Nat), .string (nstr d)] 35)) w2.heap.size ⟨0, c, h, d⟩ ⟨0, c, h, d⟩) := by
    have hb3 := hb2.trans ((below_alloc4 w2 (.cells #[.int .i64 0, .int .u64 (c : Nat), .int .u64 (h : Nat), .string (nstr d)] 35)).mono hb2.size)
    exact ⟨(hb3.block _ (blk_lt HT1.out)).trans HT1.out, heap_alloc_new w2 _, HB1.out.trans (hb3.mono HB1.out.size), Nat.lt_of_lt_of_le (blk_lt HT1.out) hb2.size⟩
  clear hb2 HB1 HT1
  go_wp2_with fail
  generalize w2.alloc (.cells #[.int .i64 0, .int .u64 (c : Nat), .int .u64 (h : Nat), .string (nstr d)] 35) = w3 at *
  generalize w2.heap.size = gx at *
  have hsz := HTS.out
  have hp0 : 0 < S1.size := by rw [hsz]; exact HTP.out
  have hpi : (0 : Int) < (S1.size : Int) := by omega
  have h153 : decide ((153 : Int) < (S1.size : Int)) = false := decide_eq_false (by rw [hsz]; have := HTL.out; omega)
  have hne0 : ((S1.size : Int) == 0) = false := beq_eq_false_iff_ne.2 (by omega)
  have hx0 := HT0.out hp0
  clear hsz
  have HLN : Hid ((lcs ⟨0, c, h, d⟩).size = 4) := rfl
  have c0 : w3.cell? ⟨w.heap.size, 0, none⟩ = some (.int .i64 0) := blk_cell HX3.out.t rfl
  go_cut [50] (fun c wx => c = .bool false ∧ Hid (Below w3.heap.size w3 wx))
  case first => as_aux_lemma =>
    have k0 : ∀ t : Ext w3, t.w'.cell? ⟨w.heap.size, 0, none⟩ = some (.int .i64 0) := fun t => Ext.cell c0 t
    have HQT : Hid (∀ wx, (∃ t : Ext w3, wx = t.w') → wx.heap[w.heap.size]? = some (.cells (lcs ⟨0, c, h, d⟩) 35 (0, 0))) := by
      rintro _ ⟨t, rfl⟩
      exact (t.h.block _ (blk_lt HX3.out.t)).trans HX3.out.t
    have HQX : Hid (∀ wx, (∃ t : Ext w3, wx = t.w') → wx.heap[gx]? = some (.cells (lcs ⟨0, c, h, d⟩) 35 (0, 0))) := by
      rintro _ ⟨t, rfl⟩
      exact (t.h.block _ (blk_lt HX3.out.x)).trans HX3.out.x
    have HQE : Hid (∀ wx, (∃ t : Ext w3, wx = t.w') → (Op.equalIn 10000 35 (.agg (lcs ⟨0, c, h, d⟩)) (.agg (lcs ⟨0, c, h, d⟩))).run Tryd.prog wx = .ok true wx) := fun wx _ => HEQ.out wx
    have HCN : Hid (∀ t : Ext w3, Calls Tryd.prog 11 #[.int .i64 0] t.w' fun e w'' => e = .returned (.int .i64 0) ∧ ∃ t' : Ext w3, w'' = t'.w') := fun t => Calls.ext_same (num4_any t.w' 0)
    generalize lcs ⟨0, c, h, d⟩ = cl at *
    refine region_ext (by kernel_rfl) (by kernel_rfl) ?_
    repeat (
      refine wpQuiet_step (fun K hK => ?_)
      first
        | (refine qstep_link rfl rfl w.heap.size cl rfl HLN.out HQT.out (hK _ ?_); clear hK K)
        | (refine qstep_link rfl rfl gx cl rfl HLN.out HQX.out (hK _ ?_); clear hK K)
        | (refine qstep_nelk rfl rfl cl cl true rfl rfl HQE.out (hK _ ?_); clear hK K)
        | (go_simp
           first
             | (refine hK _ ?_; clear hK K)
             | (apply Exists.intro
                refine ⟨fun _ => ?_, hK _ ?_⟩
                (go_at_call 11; exact HCN.out _)
                clear hK K)))
    refine wpQuiet_nil ?_
    rintro _ ⟨tq, rfl⟩
    go_wp2_with fail
    go_meet
    case rel => exact ⟨rfl, tq.h⟩
  case rest =>
    obtain ⟨rfl, hbc⟩ := hcut
    have HXC := hide (HX3.out.below hbc.out)
    clear hbc HX3 h153 hne0 hx0 hp0 hpi c0
    go_wp2_with fail
    go_loopw [8] (fun kk wx => ∃ k : Nat, k ≤ 3 ∧ kk = .int .i64 (k : Nat) ∧ Hid (Tx w wx gx ⟨0, c, h, d⟩ ⟨0, c, h, d⟩)) (fun kk _ => 3 - (intOf kk).toNat)
    case atStart => exact ⟨0, by omega, rfl, HXC⟩
    case round =>
      obtain ⟨k, hk, rfl, HX⟩ := hrel
      clear HXC
      by_cases hk3 : k < 3
      · have g1 : (k : Int) < 3 := by omega
        have c0 : wr.cell? ⟨w.heap.size, 0, none⟩ = some (.int .i64 0) := blk_cell HX.out.t rfl
        have c1 : wr.cell? ⟨w.heap.size, 1, none⟩ = some (.int .u64 (c : Nat)) := blk_cell HX.out.t rfl
        have c2 : wr.cell? ⟨w.heap.size, 2, none⟩ = some (.int .u64 (h : Nat)) := blk_cell HX.out.t rfl
        have c3 : wr.cell? ⟨w.heap.size, 3, none⟩ = some (.string (nstr d)) := blk_cell HX.out.t rfl
        have HTI : Hid (Calls Tryd.prog 13 #[.agg #[.int .i64 0, .int .u64 (c : Nat), .int .u64 (h : Nat), .string (nstr d)], .int .i64 (1 + (k : Int))] wr fun e w' => e = .returned (.tuple #[.string ⟨#[]⟩, .int .i64 45]) ∧ Below wr.heap.size wr w') := by
          have hh := textin_any wr ⟨0, c, h, d⟩ (1 + (k : Int)) HL.out
          have e : ltin ⟨0, c, h, d⟩ (1 + (k : Int)) = ([], 45) := by unfold ltin; rw [if_pos HLK.out, if_pos (.inl rfl)]
          rw [e] at hh
          exact hh
        go_wp2_with fail
        refine HTI.out.mono ?_
        rintro e y1 ⟨rfl, hb1⟩
        have HX1 := hide (HX.out.below hb1)
        have d0 : y1.cell? ⟨w.heap.size, 0, none⟩ = some (.int .i64 0) := blk_cell HX1.out.t rfl
        clear hb1 HTI c0 c1 c2 c3 HX
        go_wp2_with (go_at_call 11; refine (num4_any _ _).mono ?_; rintro e yn ⟨rfl, hyn⟩; subst hyn)
        go_roundw
        case rel => exact ⟨k + 1, by omega, by go_num, HX1⟩
        case measure => simp [intOf]; omega
      · have g1 : ¬ (k : Int) < 3 := by omega
        go_wp2_with fail
        go_ret
        exact ⟨rfl, HX.out.b⟩
end
section
open Go.RowKit Go
set_option maxRecDepth 1000000 in
set_option maxHeartbeats 2000000 in
theorem texts1_any (w : World) (c h : Nat) (d : List Nat) (hlk : lok ⟨1, c, h, d⟩) (hl : Lkb ⟨1, c, h, d⟩) : Calls Tryd.prog 30 #[.agg #[.int .i64 1, .int .u64 (c : Nat), .int .u64 (h : Nat), .string (nstr d)]] w fun e w' => e = .returned (.bool true) ∧ Below w.heap.size w w' := by
  have HL := hide hl
  have HLK := hide hlk
  have HEQ : Hid (∀ w, (Op.equalIn 10000 35 (.agg (lcs ⟨1, c, h, d⟩)) (.agg (lcs ⟨1, c, h, d⟩))).run Tryd.prog w = .ok true w) := fun w => by
    have hh := eqlk w (a := ⟨1, c, h, d⟩) (b := ⟨1, c, h, d⟩) hl.d hl.d
    rw [decide_eq_true rfl] at hh
    exact hh
  have HT : Hid ((w.alloc (.cells #[.int .i64 1, .int .u64 (c : Nat), .int .u64 (h : Nat), .string (nstr d)] 35)).heap[w.heap.size]? = some (.cells (lcs ⟨1, c, h, d⟩) 35 (0, 0))) := heap_alloc_new w _
  have HB := hide (below_alloc4 w (.cells #[.int .i64 1, .int .u64 (c : Nat), .int .u64 (h : Nat), .string (nstr d)] 35))
  have HTS : Hid ((nstr (ltext ⟨1, c, h, d⟩)).size = (ltext ⟨1, c, h, d⟩).length) := nstr_size (ltext_byte hlk)
  have HTL := hide (ltext_len hlk hl.d)
  have HTP := hide (ltext_pos hlk hl.d)
  have HT0 : Hid (∀ h0 : 0 < (nstr (ltext ⟨1, c, h, d⟩)).size, (nstr (ltext ⟨1, c, h, d⟩))[0].toNat = 98) := fun h0 => by rw [nstr_at (ltext_byte hlk), ltext_first hlk hl.d]; rfl
  have HTX : Hid (∀ w0, Calls Tryd.prog 9 #[.agg #[.int .i64 1, .int .u64 (c : Nat), .int .u64 (h : Nat), .string (nstr d)]] w0 fun e w' => e = .returned (.tuple #[.string (nstr (ltext ⟨1, c, h, d⟩)), .int .i64 0]) ∧ Below w0.heap.size w0 w') := fun w0 => by
    have hh := text4_any w0 ⟨1, c, h, d⟩ hl
    have e : lttx ⟨1, c, h, d⟩ = (ltext ⟨1, c, h, d⟩, 0) := by unfold lttx; rw [if_pos hlk]
    rw [e] at hh
    exact hh
  have HPT : Hid (∀ w0, Calls Tryd.prog 15 #[.string (nstr (ltext ⟨1, c, h, d⟩))] w0 fun e w' => e = .returned (.tuple #[.agg #[.int .i64 1, .int .u64 (c : Nat), .int .u64 (h : Nat), .string (nstr d)], .int .i64 0]) ∧ Below w0.heap.size w0 w') := fun w0 => by
    have hh := parsetext_any w0 (nstr (ltext ⟨1, c, h, d⟩)) (by rw [HTS.out]; have := HTL.out; omega)
    rw [sl_nstr (ltext_byte hlk), lparsetext_text hlk hl.d] at hh
    exact hh
  clear hlk hl
  go_enter Tryd.func30, Tryd.ntmps30
  go_wp2_with fail
  generalize w.alloc (.cells #[.int .i64 1, .int .u64 (c : Nat), .int .u64 (h : Nat), .string (nstr d)] 35) = w0 at *
  refine (HTX.out w0).mono ?_
  rintro e w1 ⟨rfl, hb1⟩
  have HB1 : Hid (Below w.heap.size w w1) := HB.out.trans (hb1.mono HB.out.size)
  have HT1 : Hid (w1.heap[w.heap.size]? = some (.cells (lcs ⟨1, c, h, d⟩) 35 (0, 0))) := (hb1.block _ (blk_lt HT.out)).trans HT.out
  clear hb1 HB HT HTX
  generalize nstr (ltext ⟨1, c, h, d⟩) = S1 at *
  go_wp2_with fail
  refine (HPT.out w1).mono ?_
  rintro e w2 ⟨rfl, hb2⟩
  clear HPT
  have HX3 : Hid (Tx w (w2.alloc (.cells #[.int .i64 1, .int .u64 (c : Nat), .int .u64 (h : Nat), .string (nstr d)] 35)) w2.heap.size ⟨1, c, h, d⟩ ⟨1, c, h, d⟩) := by
    have hb3 := hb2.trans ((below_alloc4 w2 (.cells #[.int .i64 1, .int .u64 (c : Nat), .int .u64 (h : Nat), .string (nstr d)] 35)).mono hb2.size)
    exact ⟨(hb3.block _ (blk_lt HT1.out)).trans HT1.out, heap_alloc_new w2 _, HB1.out.trans (hb3.mono HB1.out.size), Nat.lt_of_lt_of_le (blk_lt HT1.out) hb2.size⟩
  clear hb2 HB1 HT1
  go_wp2_with fail
  generalize w2.alloc (.cells #[.int .i64 1, .int .u64 (c : Nat), .int .u64 (h : Nat), .string (nstr d)] 35) = w3 at *
  generalize w2.heap.size = gx at *
  have hsz := HTS.out
  have hp0 : 0 < S1.size := by rw [hsz]; exact HTP.out
  have hpi : (0 : Int) < (S1.size : Int) := by omega
  have h153 : decide ((153 : Int) < (S1.size : Int)) = false := decide_eq_false (by rw [hsz]; have := HTL.out; omega)
  have hne0 : ((S1.size : Int) == 0) = false := beq_eq_false_iff_ne.2 (by omega)
  have hx0 := HT0.out hp0
  clear hsz
  have HLN : Hid ((lcs ⟨1, c, h, d⟩).size = 4) := rfl
  have c0 : w3.cell? ⟨w.heap.size, 0, none⟩ = some (.int .i64 1) := blk_cell HX3.out.t rfl
  go_cut [50] (fun c wx => c = .bool false ∧ Hid (Below w3.heap.size w3 wx))
  case first => as_aux_lemma =>
    have k0 : ∀ t : Ext w3, t.w'.cell? ⟨w.heap.size, 0, none⟩ = some (.int .i64 1) := fun t => Ext.cell c0 t
    have HQT : Hid (∀ wx, (∃ t : Ext w3, wx = t.w') → wx.heap[w.heap.size]? = some (.cells (lcs ⟨1, c, h, d⟩) 35 (0, 0))) := by
      rintro _ ⟨t, rfl⟩
      exact (t.h.block _ (blk_lt HX3.out.t)).trans HX3.out.t
    have HQX : Hid (∀ wx, (∃ t : Ext w3, wx = t.w') → wx.heap[gx]? = some (.cells (lcs ⟨1, c, h, d⟩) 35 (0, 0))) := by
      rintro _ ⟨t, rfl⟩
      exact (t.h.block _ (blk_lt HX3.out.x)).trans HX3.out.x
    have HQE : Hid (∀ wx, (∃ t : Ext w3, wx = t.w') → (Op.equalIn 10000 35 (.agg (lcs ⟨1, c, h, d⟩)) (.agg (lcs ⟨1, c, h, d⟩))).run Tryd.prog wx = .ok true wx) := fun wx _ => HEQ.out wx
    have HCN : Hid (∀ t : Ext w3, Calls Tryd.prog 11 #[.int .i64 0] t.w' fun e w'' => e = .returned (.int .i64 0) ∧ ∃ t' : Ext w3, w'' = t'.w') := fun t => Calls.ext_same (num4_any t.w' 0)
    generalize lcs ⟨1, c, h, d⟩ = cl at *
    refine region_ext (by kernel_rfl) (by kernel_rfl) ?_
    repeat (
      refine wpQuiet_step (fun K hK => ?_)
      first
        | (refine qstep_link rfl rfl w.heap.size cl rfl HLN.out HQT.out (hK _ ?_); clear hK K)
        | (refine qstep_link rfl rfl gx cl rfl HLN.out HQX.out (hK _ ?_); clear hK K)
        | (refine qstep_nelk rfl rfl cl cl true rfl rfl HQE.out (hK _ ?_); clear hK K)
        | (go_simp
           first
             | (refine hK _ ?_; clear hK K)
             | (apply Exists.intro
                refine ⟨fun _ => ?_, hK _ ?_⟩
                (go_at_call 11; exact HCN.out _)
                clear hK K)))
    refine wpQuiet_nil ?_
    rintro _ ⟨tq, rfl⟩
    go_wp2_with fail
    go_meet
    case rel => exact ⟨rfl, tq.h⟩
  case rest =>
    obtain ⟨rfl, hbc⟩ := hcut
    have HXC := hide (HX3.out.below hbc.out)
    clear hbc HX3 h153 hne0 hx0 hp0 hpi c0
    go_wp2_with fail
    go_loopw [8] (fun kk wx => ∃ k : Nat, k ≤ 3 ∧ kk = .int .i64 (k : Nat) ∧ Hid (Tx w wx gx ⟨1, c, h, d⟩ ⟨1, c, h, d⟩)) (fun kk _ => 3 - (intOf kk).toNat)
    case atStart => exact ⟨0, by omega, rfl, HXC⟩
    case round =>
      obtain ⟨k, hk, rfl, HX⟩ := hrel
      clear HXC
      by_cases hk3 : k < 3
      · have g1 : (k : Int) < 3 := by omega
        have c0 : wr.cell? ⟨w.heap.size, 0, none⟩ = some (.int .i64 1) := blk_cell HX.out.t rfl
        have c1 : wr.cell? ⟨w.heap.size, 1, none⟩ = some (.int .u64 (c : Nat)) := blk_cell HX.out.t rfl
        have c2 : wr.cell? ⟨w.heap.size, 2, none⟩ = some (.int .u64 (h : Nat)) := blk_cell HX.out.t rfl
        have c3 : wr.cell? ⟨w.heap.size, 3, none⟩ = some (.string (nstr d)) := blk_cell HX.out.t rfl
        have hkn : k + 1 = 1 ∨ k + 1 = 2 ∨ k + 1 = 3 := by omega
        have hv1 : (⟨1, c, h, d⟩ : Lk).v ≠ 0 := by simp
        have HTI : Hid (Calls Tryd.prog 13 #[.agg #[.int .i64 1, .int .u64 (c : Nat), .int .u64 (h : Nat), .string (nstr d)], .int .i64 (1 + (k : Int))] wr fun e w' => e = .returned (.tuple #[.string (nstr (ltextin ⟨1, c, h, d⟩ (k + 1))), .int .i64 0]) ∧ Below wr.heap.size wr w') := by
          have hh := textin_any wr ⟨1, c, h, d⟩ ((k + 1 : Nat) : Int) HL.out
          rw [ltin_text HLK.out hv1 hkn] at hh
          have e : ((k + 1 : Nat) : Int) = 1 + (k : Int) := by omega
          rw [e] at hh
          exact hh
        have HUB := hide (ltextin_byte HLK.out hv1 hkn)
        have HUS : Hid ((nstr (ltextin ⟨1, c, h, d⟩ (k + 1))).size = (ltextin ⟨1, c, h, d⟩ (k + 1)).length) := nstr_size HUB.out
        have HUL := hide (ltextin_len HLK.out HL.out.d (k + 1))
        have HUP := hide (ltextin_pos ⟨1, c, h, d⟩ (k + 1))
        have HU0 : Hid (∀ h0 : 0 < (nstr (ltextin ⟨1, c, h, d⟩ (k + 1))).size, (nstr (ltextin ⟨1, c, h, d⟩ (k + 1)))[0].toNat = if k + 1 = 1 then 102 else if k + 1 = 2 then 98 else 122) := fun h0 => by rw [nstr_at HUB.out, ltextin_first _ _ hkn]
        have HPT : Hid (∀ w0, Calls Tryd.prog 15 #[.string (nstr (ltextin ⟨1, c, h, d⟩ (k + 1)))] w0 fun e w' => e = .returned (.tuple #[.agg (lcs ⟨1, c, h, d⟩), .int .i64 0]) ∧ Below w0.heap.size w0 w') := fun w0 => by
          have hh := parsetext_any w0 (nstr (ltextin ⟨1, c, h, d⟩ (k + 1))) (by rw [HUS.out]; have := HUL.out; omega)
          rw [sl_nstr HUB.out, lparsetext_in HLK.out HL.out.d rfl] at hh
          exact hh
        clear hkn hv1
        go_wp2_with fail
        refine HTI.out.mono ?_
        rintro e y1 ⟨rfl, hb1⟩
        have HX1 := hide (HX.out.below hb1)
        have d0 : y1.cell? ⟨w.heap.size, 0, none⟩ = some (.int .i64 1) := blk_cell HX1.out.t rfl
        clear hb1 HTI c0 c1 c2 c3 HX
        generalize nstr (ltextin ⟨1, c, h, d⟩ (k + 1)) = S2 at *
        go_wp2_with fail
        refine (HPT.out y1).mono ?_
        rintro e y2 ⟨rfl, hb2⟩
        have HX2 := hide (HX1.out.below hb2)
        have HXX := hide HX2.out.x
        have HX3 := hide (HX2.out.set ⟨1, c, h, d⟩)
        clear hb2 HPT d0 HX1 HX2
        go_wp2_with (refine wpList_storeLk rfl rfl gx (lcs ⟨1, c, h, d⟩) ⟨1, c, h, d⟩ rfl rfl rfl HXX.out ?_)
        generalize y2.setRow gx (lcs ⟨1, c, h, d⟩) = y3 at *
        have hsz := HUS.out
        have hp0 : 0 < S2.size := by rw [hsz]; exact HUP.out
        have hpi : (0 : Int) < (S2.size : Int) := by omega
        have h153 : decide ((153 : Int) < (S2.size : Int)) = false := decide_eq_false (by rw [hsz]; have := HUL.out; omega)
        have hne0 : ((S2.size : Int) == 0) = false := beq_eq_false_iff_ne.2 (by omega)
        have hx0 := HU0.out hp0
        clear hsz
        have HQT : Hid (∀ wx, (∃ t : Ext y3, wx = t.w') → wx.heap[w.heap.size]? = some (.cells (lcs ⟨1, c, h, d⟩) 35 (0, 0))) := by
          rintro _ ⟨t, rfl⟩
          exact (t.h.block _ (blk_lt HX3.out.t)).trans HX3.out.t
        have HQX : Hid (∀ wx, (∃ t : Ext y3, wx = t.w') → wx.heap[gx]? = some (.cells (lcs ⟨1, c, h, d⟩) 35 (0, 0))) := by
          rintro _ ⟨t, rfl⟩
          exact (t.h.block _ (blk_lt HX3.out.x)).trans HX3.out.x
        have HQE : Hid (∀ wx, (∃ t : Ext y3, wx = t.w') → (Op.equalIn 10000 35 (.agg (lcs ⟨1, c, h, d⟩)) (.agg (lcs ⟨1, c, h, d⟩))).run Tryd.prog wx = .ok true wx) := fun wx _ => HEQ.out wx
        have HCN : Hid (∀ t : Ext y3, Calls Tryd.prog 11 #[.int .i64 0] t.w' fun e w'' => e = .returned (.int .i64 0) ∧ ∃ t' : Ext y3, w'' = t'.w') := fun t => Calls.ext_same (num4_any t.w' 0)
        generalize hcl : lcs ⟨1, c, h, d⟩ = cl at *
        clear hcl
        have hk012 : k = 0 ∨ k = 1 ∨ k = 2 := by omega
        clear HLK HL HTL HTP HTS HT0 HUB HUS HUL HUP HU0 hk hk3
        rcases hk012 with rfl | rfl | rfl
        all_goals (as_aux_lemma =>
          simp only [Nat.zero_add, Nat.reduceAdd, if_true, Nat.reduceEqDiff, if_false] at hx0
          refine region_ext (by kernel_rfl) (by kernel_rfl) ?_
          repeat (
            refine wpQuiet_step (fun K hK => ?_)
            first
              | (refine qstep_link rfl rfl w.heap.size cl rfl HLN.out HQT.out (hK _ ?_); clear hK K)
              | (refine qstep_link rfl rfl gx cl rfl HLN.out HQX.out (hK _ ?_); clear hK K)
              | (refine qstep_nelk rfl rfl cl cl true rfl rfl HQE.out (hK _ ?_); clear hK K)
              | (go_simp
                 first
                   | (refine hK _ ?_; clear hK K)
                   | (apply Exists.intro
                      refine ⟨fun _ => ?_, hK _ ?_⟩
                      (go_at_call 11; exact HCN.out _)
                      clear hK K)))
          refine wpQuiet_nil ?_
          rintro _ ⟨tq, rfl⟩
          have HX4 := hide (HX3.out.below tq.h)
          go_wp2_with fail
          go_roundw
          case rel => exact ⟨_, by decide, rfl, HX4⟩
          case measure => simp [intOf])
      · have g1 : ¬ (k : Int) < 3 := by omega
        go_wp2_with fail
        go_ret
        exact ⟨rfl, HX.out.b⟩
theorem texts_any (w : World) (l : Lk) (hlk : lok l) (hl : Lkb l) : Calls Tryd.prog 30 #[lkv l] w fun e w' => e = .returned (.bool true) ∧ Below w.heap.size w w' := by
  obtain ⟨v, c, h, d⟩ := l
  rcases hlk with h1 | h1
  · have e := h1.1
    simp only at e
    subst e
    exact texts0_any w c h d (.inl h1) hl
  · have e := h1.1
    simp only at e
    subst e
    exact texts1_any w c h d (.inr h1) hl
end
section
open Go.RowKit Go
theorem blt_asym : ∀ (x y : List Nat), (∀ r, x ++ r = y → r = []) → (∀ r, y ++ r = x → r = []) → x ≠ y → blt x y = !blt y x
  | [], [], _, _, h => absurd rfl h
  | [], y :: r, h1, _, _ => by have := h1 (y :: r) rfl; cases this
  | x :: r, [], _, h2, _ => by have := h2 (x :: r) rfl; cases this
  | x :: r, y :: q, h1, h2, h => by
    simp only [blt]
    by_cases e : x = y
    · subst e
      rw [if_pos rfl, if_pos rfl]
      exact blt_asym r q (fun s hs => h1 s (by rw [List.cons_append, hs])) (fun s hs => h2 s (by rw [List.cons_append, hs])) (fun e => h (by rw [e]))
    · rw [if_neg e, if_neg (fun h => e h.symm)]
      by_cases hl : x < y
      · simp [hl]; omega
      · simp [hl]; omega
/-- Just one of two unlike links stands ahead. -/
theorem llt_one {a b : Lk} (ha : lok a) (hb : lok b) : (llt a b == llt b a) = decide (a = b) := by
  have e : ∀ x y, lok x → lok y → llt x y = blt (lbytes x) (lbytes y) := fun x y hx hy => by
    unfold llt lrow
    rw [decide_eq_true hx, decide_eq_true hy, if_pos hx, if_pos hy]
    rfl
  rw [e a b ha hb, e b a hb ha]
  by_cases h : a = b
  · subst h
    simp
  · rw [decide_eq_false h, blt_asym _ _ (fun r hr => (lbytes_free ha hb hr).2) (fun r hr => (lbytes_free hb ha hr).2) (fun e => h (lbytes_inj ha hb e))]
    cases blt (lbytes b) (lbytes a) <;> rfl
theorem ltext_eq {a b : Lk} (ha : lok a) (hb : lok b) (hda : ∀ x ∈ a.d, x < 256) (hdb : ∀ x ∈ b.d, x < 256) : ltext a = ltext b ↔ a = b := by
  constructor
  · intro e
    have h1 := lparsetext_text ha hda
    have h2 := lparsetext_text hb hdb
    rw [e, h2] at h1
    injection h1 with h1
    exact h1.symm
  · intro e
    rw [e]
theorem lbytes_eq {a b : Lk} (ha : lok a) (hb : lok b) : lbytes a = lbytes b ↔ a = b := ⟨lbytes_inj ha hb, fun e => by rw [e]⟩
theorem begins_no {a b : Lk} (ha : lok a) (hb : lok b) (h : a ≠ b) : (decide ((lbytes a).length ≤ (lbytes b).length) && decide (lbytes a = (lbytes b).take (lbytes a).length)) = false := by
  rw [Bool.and_eq_false_iff]
  right
  rw [decide_eq_false_iff_not]
  intro e
  have : lbytes a ++ (lbytes b).drop (lbytes a).length = lbytes b := by
    conv => lhs; lhs; rw [e]
    exact List.take_append_drop _ _
  exact h (lbytes_free ha hb this).1
end
section
open Go.RowKit Go
/-- What LinkBack has in hand: the link before, its bytes, its text. -/
structure Bkk (w wx : World) (c : Array Value) (gL : Nat) (vb : Value) (ss : ByteArray) (pv : Option Lk) : Prop where
  k : Lks w wx c
  l : wx.heap[gL]? = some (.cells (lcs (pv.getD Lk.none)) 35 (0, 0))
  gl : w.heap.size < gL
  z : 1 < w.heap.size
  p : (pv = none ∧ vb = .slice none 0 0 ∧ ss = ⟨#[]⟩) ∨ (∃ p, pv = some p ∧ lok p ∧ Lkb p ∧ BSl wx vb (lbytes p) ∧ ss = nstr (ltext p) ∧ ∀ k, vb.ownBlock = some k → k ≠ gL)
theorem Bkk.below {w wx wy : World} {c : Array Value} {gL : Nat} {vb : Value} {ss : ByteArray} {pv : Option Lk} (h : Bkk w wx c gL vb ss pv) (hb : Below wx.heap.size wx wy) : Bkk w wy c gL vb ss pv :=
  ⟨h.k.below hb, (hb.block _ (blk_lt h.l)).trans h.l, h.gl, h.z, by
    rcases h.p with h1 | ⟨p, h1, h2, h3, h4, h5⟩
    · exact .inl h1
    · exact .inr ⟨p, h1, h2, h3, h4.move (keep_below hb), h5⟩⟩
/-- A round of LinkBack: the link, its bytes. -/
structure Bkr (w wx : World) (c : Array Value) (gL : Nat) (vb : Value) (ss : ByteArray) (pv : Option Lk) (g7 : Nat) (l : Lk) (vB : Value) : Prop where
  s : Bkk w wx c gL vb ss pv
  t : wx.heap[g7]? = some (.cells (lcs l) 35 (0, 0))
  b : BSl wx vB (lbytes l)
  n : ∀ k, vB.ownBlock = some k → k ≠ gL
theorem Bkr.below {w wx wy : World} {c : Array Value} {gL : Nat} {vb : Value} {ss : ByteArray} {pv : Option Lk} {g7 : Nat} {l : Lk} {vB : Value} (h : Bkr w wx c gL vb ss pv g7 l vB) (hb : Below wx.heap.size wx wy) : Bkr w wy c gL vb ss pv g7 l vB :=
  ⟨h.s.below hb, (hb.block _ (blk_lt h.t)).trans h.t, h.b.move (keep_below hb), h.n⟩
/-- What the next round begins with. -/
theorem Bkr.next {w wx : World} {c : Array Value} {gL : Nat} {vb : Value} {ss : ByteArray} {pv : Option Lk} {g7 : Nat} {l : Lk} {vB : Value} (h : Bkr w wx c gL vb ss pv g7 l vB) (hl : lok l) (hd : Lkb l) : Bkk w (wx.setRow gL (lcs l)) c gL vB (nstr (ltext l)) (some l) := by
  have hk := row_kp wx gL (lcs l)
  have hgl := h.s.gl
  have hcb := h.s.k.c
  have hz := h.s.z
  have hbs := h.s.k.b.size
  refine ⟨⟨(row_other (by omega)).trans h.s.k.t, h.s.k.b.trans (hk.below h.s.k.b.size (fun q e => by omega)), hcb.kp hk (fun e => by omega)⟩, row_same h.s.l, hgl, hz, .inr ⟨l, rfl, hl, hd, hk.bsl h.b (fun k hk' e => h.n k hk' e), rfl, h.n⟩⟩
end
section
open Go.RowKit Go
set_option maxRecDepth 1000000 in
set_option maxHeartbeats 4000000 in
theorem back4_any (w : World) (aL : Option Addr) (nL cL : Nat) (aB : Option Addr) (nB cB : Nat) (v1 v3 v4 : Value) (hcb : Cb w) (hL : LinksIn w (.slice aL nL cL) nL) (hB : RowsIn w (.slice aB nB cB) nB) :
    Calls Tryd.prog 6 #[.agg #[.slice aL nL cL, v1, .slice aB nB cB, v3, v4]] w fun e w' => e = .returned (.bool true) ∧ Below w.heap.size w w' := by
  have HX0 := hide (Lks.start #[.slice aL nL cL, v1, .slice aB nB cB, v3, v4] hcb)
  have HL := hide hL
  have HBB := hide hB
  have HPO := hide hcb.pos
  have hmx := hL.max
  have hmy := hB.max
  clear hcb hL hB
  go_enter Tryd.func6, Tryd.ntmps6
  go_wp2_with fail
  generalize w.alloc (.cells #[.slice aL nL cL, v1, .slice aB nB cB, v3, v4] 28) = w0 at *
  refine (begun4_any w0 HX0.out.c).mono ?_
  rintro e w1 ⟨rfl, hb1⟩
  have HX1 := hide (HX0.out.below hb1)
  clear hb1 HX0
  have HK1 : Hid (Bkk w (w1.alloc (.cells #[.int .i64 0, .int .u64 0, .int .u64 0, .string ⟨#[]⟩] 35)) #[.slice aL nL cL, v1, .slice aB nB cB, v3, v4] w1.heap.size (.slice none 0 0) ⟨#[]⟩ none) :=
    ⟨HX1.out.below (below_alloc4 w1 _), heap_alloc_new w1 _, blk_lt HX1.out.t, HPO.out, .inl ⟨rfl, rfl, rfl⟩⟩
  go_wp2_with fail
  generalize w1.alloc (.cells #[.int .i64 0, .int .u64 0, .int .u64 0, .string ⟨#[]⟩] 35) = w2 at *
  generalize w1.heap.size = gL at *
  go_loopw [4, 5, 6] (fun vb vs ii wx => ∃ (i : Nat) (ss : ByteArray) (pv : Option Lk), i ≤ 1000 ∧ ii = .int .i64 (i : Nat) ∧ vs = .string ss ∧ Hid (Bkk w wx #[.slice aL nL cL, v1, .slice aB nB cB, v3, v4] gL vb ss pv)) (fun _ _ ii _ => 1000 - (intOf ii).toNat)
  case atStart => exact ⟨0, _, none, by omega, rfl, rfl, HK1⟩
  case round =>
    obtain ⟨i, ss, pv, hi, rfl, rfl, HX⟩ := hrel
    clear HK1 HX1
    have q0 : wr.cell? ⟨w.heap.size, 0, none⟩ = some (.slice aL nL cL) := blk_cell HX.out.k.t rfl
    by_cases hil : i < nL ∧ i < 1000
    · obtain ⟨hil, hi60⟩ := hil
      have g1 : (i : Int) < (nL : Int) := by omega
      have g2 : (i : Int) < 1000 := by omega
      obtain ⟨a', cap', hv, hform⟩ := HL.out.form
      injection hv with e1 e2 e3
      subst e1
      obtain ⟨b, off, rfl, hcells⟩ := hform.resolve_left (by omega)
      obtain ⟨l, hli, hci⟩ := hcells i hil
      have HLI := hide hli
      have HCI : Hid (∀ j u, (lcs l)[j]? = some u → wr.cell? ⟨b, off + i * 4 + j, none⟩ = some u) := fun j u hu => keep_below HX.out.k.b _ _ (hci j u hu)
      clear hform hcells hli hci e2 e3
      -- the byte row that stands behind
      have HMO : Hid ((nB = 0 ∧ True) ∨ (0 < nB ∧ ∃ bb ob u xs, aB = some ⟨bb, ob, none⟩ ∧ w.cell? ⟨bb, ob + i % nB, none⟩ = some u ∧ BSl w u xs ∧ xs.length ≤ 140737488351232)) := by
        obtain ⟨a', cap', hv, _, hform⟩ := HBB.out.form
        injection hv with e1 e2 e3
        subst e1
        rcases hform with h | ⟨bb, ob, h1, h2⟩
        · exact .inl ⟨h, trivial⟩
        · by_cases hz : nB = 0
          · exact .inl ⟨hz, trivial⟩
          · obtain ⟨u, xs, h3, h4, h5⟩ := h2 (i % nB) (Nat.mod_lt _ (by omega))
            exact .inr ⟨by omega, bb, ob, u, xs, h1, h3, h4, h5⟩
      have HCS : Hid (lcs l = #[.int .i64 l.v, .int .u64 (l.c : Nat), .int .u64 (l.h : Nat), .string (nstr l.d)]) := rfl
      have HXa := hide (HX.out.below (below_alloc4 wr (.cells (lcs l) 35)))
      have HTa : Hid ((wr.alloc (.cells (lcs l) 35)).heap[wr.heap.size]? = some (.cells (lcs l) 35 (0, 0))) := heap_alloc_new wr _
      have HLN : Hid ((lcs l).size = 4) := rfl
      have HGL : Hid (gL < wr.heap.size) := blk_lt HX.out.l
      go_wp2_with (first
        | (refine wpList_lkAt rfl rfl b (off + i * 4) l rfl HCI.out ?_)
        | (refine wpList_storeLk rfl rfl wr.heap.size _ l rfl rfl rfl (heap_alloc_new wr _) ?_; rw [World.setRow_alloc_new])
        | (refine wpList_loadLk rfl rfl wr.heap.size (lcs l) rfl HLN.out HTa.out ?_))
      generalize wr.alloc (.cells (lcs l) 35) = y0 at *
      generalize hg7 : wr.heap.size = g7 at *
      clear HX HCI q0 hg7
      have HBY := hide (bytes4_any y0 l HLI.out)
      refine (show Calls Tryd.prog 25 #[.agg (lcs l)] y0 _ from HBY.out).mono ?_
      rintro e y1 ⟨vB, rfl, ho1, hb1⟩
      clear HBY
      have HXb := hide (HXa.out.below hb1)
      have HTb := hide ((hb1.block _ (blk_lt HTa.out)).trans HTa.out)
      have HV1 := hide (BSl.own ho1 (lrow_byte HLI.out.d))
      have HGB : Hid (∀ k, vB.ownBlock = some k → k ≠ gL) := fun k hk e => by have := (ho1.lt k hk).1; have := blk_lt HXa.out.l; omega
      obtain ⟨aV, cV, hvB, hq1, hq2, hq3⟩ := own_form ho1
      subst hvB
      clear ho1 hb1 hq1 hq2 hq3 HXa HTa HGL
      have HCK : Hid (∀ t : Ext y1, Calls Tryd.prog 26 #[.agg (lcs l)] t.w' fun e w'' => e = .returned (.int .i64 (if lok l then 0 else 40)) ∧ ∃ t' : Ext y1, w'' = t'.w') := fun t => Calls.ext_below (check_any t.w' l HLI.out)
      have HRE : Hid (lok l → lrow l = lbytes l) := fun h => by unfold lrow; rw [if_pos h]
      generalize hE : (if lok l then (0 : Int) else 40) = E at *
      have HE := hide hE
      clear hE
      go_wp2_with fail
      go_cut [49] (fun c wx => c = .bool false ∧ Hid (Below y1.heap.size y1 wx))
      case first => as_aux_lemma =>
        have HQT : Hid (∀ wx, (∃ t : Ext y1, wx = t.w') → wx.heap[g7]? = some (.cells (lcs l) 35 (0, 0))) := by
          rintro _ ⟨t, rfl⟩
          exact (t.h.block _ (blk_lt HTb.out)).trans HTb.out
        have HCN : Hid (∀ t : Ext y1, Calls Tryd.prog 11 #[.int .i64 E] t.w' fun e w'' => e = .returned (.int .i64 E) ∧ ∃ t' : Ext y1, w'' = t'.w') := fun t => Calls.ext_same (num4_any t.w' E)
        generalize lcs l = cl at *
        refine region_ext (by kernel_rfl) (by kernel_rfl) ?_
        repeat (
          refine wpQuiet_step (fun K hK => ?_)
          first
            | (refine qstep_link rfl rfl g7 cl rfl HLN.out HQT.out (hK _ ?_); clear hK K)
            | (go_simp
               first
                 | (refine hK _ ?_; clear hK K)
                 | (apply Exists.intro
                    refine ⟨fun _ => ?_, hK _ ?_⟩
                    (first
                      | (go_at_call 11; exact HCN.out _)
                      | (go_at_call 26; exact HCK.out _))
                    clear hK K)))
        refine wpQuiet_nil ?_
        rintro _ ⟨tq, rfl⟩
        go_wp2_with fail
        go_meet
        case rel => exact ⟨rfl, tq.h⟩
      case rest =>
      obtain ⟨rfl, hbc⟩ := hcut
      have HXc := hide (HXb.out.below hbc.out)
      have HTc := hide ((hbc.out.block _ (blk_lt HTb.out)).trans HTb.out)
      have HVc := hide (HV1.out.move (keep_below hbc.out))
      clear hbc HXb HTb HV1 HCK
      by_cases hlk : lok l
      · rw [if_pos hlk] at HE
        have hE := HE.out
        subst hE
        rw [HRE.out hlk] at HVc ⊢
        have HR0 : Hid (Bkr w wc #[.slice (some ⟨b, off, none⟩) nL cL, v1, .slice aB nB cB, v3, v4] gL u4 ss pv g7 l (.slice aV (lbytes l).length cV)) := by
          rw [HRE.out hlk] at HGB
          exact ⟨HXc.out, HTc.out, HVc.out, HGB.out⟩
        have HLK := hide hlk
        clear hlk HRE HE HXc HTc HVc HGB
        have HBL := hide (lbytes_len HLK.out)
        have HBN : Hid (0 < (lbytes l).length) := by
          show _ < _
          unfold lbytes
          split <;> simp
        have HPB := hide (lparse_bytes HLK.out)
        have HPL := hide (lparse_left HLK.out 0)
        have HFB := hide (fun ms => lfirst_bytes HLK.out ms)
        have HBD := hide (lbytes_byte HLK.out HLI.out.d)
        have HGO : Hid (∀ (y2 : World) (um : Value) (xs : List Nat), True) := fun _ _ _ => trivial
        have c2 : wc.cell? ⟨w.heap.size, 2, none⟩ = some (.slice aB nB cB) := blk_cell HR0.out.s.k.t rfl
        have key : ∃ um xs, ((nB = 0 ∧ um = Value.slice none 0 0) ∨ (0 < nB ∧ ∃ bb ob, aB = some ⟨bb, ob, none⟩ ∧ wc.cell? ⟨bb, ob + i % nB, none⟩ = some um)) ∧ BSl w um xs ∧ xs.length ≤ 140737488351232 := by
          rcases HMO.out with h | ⟨h0, bb, ob, u, xs, h1, h2, h3, h4⟩
          · exact ⟨_, [], .inl ⟨h.1, rfl⟩, ⟨⟨none, 0, rfl, ⟨Nat.le_refl _, fun _ => rfl⟩, .inl rfl⟩, by simp, by simp⟩, by simp⟩
          · exact ⟨u, xs, .inr ⟨h0, bb, ob, h1, keep_below HR0.out.s.k.b _ _ h2⟩, h3, h4⟩
        obtain ⟨um, xs, hor, hum, hxl⟩ := key
        have HUM := hide hum
        have HXL := hide hxl
        obtain ⟨⟨au, cau, hu, hnu, hcau⟩, hmu, hbyu⟩ := hum
        subst hu
        clear hnu hcau hmu hbyu hxl HMO HGO
        rcases hor with ⟨hn0, hue⟩ | ⟨hn0, bb, ob, rfl, hcu⟩
        case' inl =>
          subst hn0
          go_wp2_with (go_at_call 11; refine (num4_any _ _).mono ?_; rintro e yn ⟨rfl, hyn⟩; subst hyn)
          rw [← hue]
          have HRq := HR0
          have HUMq := hide (HUM.out.move (keep_below HR0.out.s.k.b))
          clear HR0 hue c2
          generalize hyq : yn = yq at *
          clear hyq
        case' inr =>
          have gn : (0 : Int) < (nB : Int) := by omega
          have gm : (i : Int) % (nB : Int) = ((i % nB : Nat) : Int) := by omega
          have gl : i % nB < nB := Nat.mod_lt _ hn0
          generalize i % nB = im at *
          have gl2 : (im : Int) < (nB : Int) := by omega
          go_wp2_with (go_at_call 11; refine (num4_any _ _).mono ?_; rintro e yn ⟨rfl, hyn⟩; subst hyn)
          go_quiet (fail)
          go_wp2_with fail
          have HRq := hide (HR0.out.below (below_drewN yn nq))
          have HUMq := hide (HUM.out.move (keep_below HRq.out.s.k.b))
          clear HR0 gn gm gl gl2 hcu c2
          generalize hyq : yn.drewN nq = yq at *
          clear hyq
        all_goals (as_aux_lemma =>
          have HXL2 : Hid ((lbytes l).length + xs.length ≤ 140737488355328) := by have := HXL.out; have := HBL.out; show _ ≤ _; omega
          refine (copy_any yq _ (lbytes l) HRq.out.b (by have := HBL.out; omega)).mono ?_
          rintro e y2 ⟨vc, rfl, ho2, hb2⟩
          have HR2 := hide (HRq.out.below hb2)
          have HUM2 := hide (HUMq.out.move (keep_below hb2))
          have HO2 := hide ho2
          have HYB : Hid (w.heap.size ≤ yq.heap.size) := HRq.out.s.k.b.size
          obtain ⟨ac, cc, hvc, hq1, hq2, hq3⟩ := own_form ho2
          subst hvc
          clear ho2 hq1 hq2 hq3 HUMq
          go_wp2_with (at_builtin; refine append_bsl rfl _ _ rfl yq.heap.size _ (lbytes l).length (lbytes l) rfl HO2.out _ xs rfl HUM2.out HXL2.out hb2.size ?_)
          intro v7 y3 ho3 hg3
          have hk3 : Below yq.heap.size y2 y3 := (Below.refl _ _).grown hg3 hb2.size (fun g hg => (HO2.out.lt g hg).1)
          have HR3 := hide (HRq.out.below (hb2.trans hk3))
          have HV3 : Hid (BSl y3 v7 (lbytes l ++ xs)) := BSl.own (n := (lbytes l).length + xs.length) ho3 (fun x hx => by
            rcases List.mem_append.1 hx with h | h
            · exact HBD.out x h
            · exact HUM.out.byte x h)
          obtain ⟨a7, c7, hv7, hq1, hq2, hq3⟩ := own_form ho3
          subst hv7
          clear ho3 hg3 hk3 hb2 hq1 hq2 hq3 HRq HO2 HUM2 HR2
          have HFS : Hid (Calls Tryd.prog 27 #[.slice a7 ((lbytes l).length + xs.length) c7] y3 fun e w' => e = .returned (.tuple #[.agg (lcs l), .int .i64 ((lbytes l).length : Nat), .int .i64 0]) ∧ Below y3.heap.size y3 w') := by
            have hh := first4_any y3 _ (lbytes l ++ xs) HV3.out
            rw [HFB.out xs] at hh
            exact hh
          clear HV3
          go_wp2_with fail
          refine HFS.out.mono ?_
          rintro e y4 ⟨rfl, hb4⟩
          have HR5 := hide ((HR3.out.below hb4).below (below_alloc4 y4 (.cells (lcs l) 35)))
          have HA5 : Hid ((y4.alloc (.cells (lcs l) 35)).heap[y4.heap.size]? = some (.cells (lcs l) 35 (0, 0))) := heap_alloc_new y4 _
          clear hb4 HFS HR3
          go_wp2_with (refine wpList_storeLk rfl rfl y4.heap.size _ l rfl rfl rfl (heap_alloc_new y4 _) ?_; rw [World.setRow_alloc_new])
          generalize y4.alloc (.cells (lcs l) 35) = y5 at *
          generalize y4.heap.size = g11 at *
          refine (copy_any y5 _ (lbytes l) HR5.out.b (by have := HBL.out; omega)).mono ?_
          rintro e y6 ⟨vc, rfl, ho6, hb6⟩
          have HR6 := hide (HR5.out.below hb6)
          have HA6 := hide ((hb6.block _ (blk_lt HA5.out)).trans HA5.out)
          have HV6 := hide (BSl.own ho6 HBD.out)
          obtain ⟨a6, c6, hv6, hq1, hq2, hq3⟩ := own_form ho6
          subst hv6
          clear ho6 hb6 hq1 hq2 hq3 HR5 HA5
          have HPS : Hid (Calls Tryd.prog 29 #[.slice a6 (lbytes l).length c6] y6 fun e w' => e = .returned (.tuple #[.agg (lcs l), .int .i64 0]) ∧ Below y6.heap.size y6 w') := by
            have hh := parse4_any y6 _ (lbytes l) HV6.out
            rw [HPB.out] at hh
            exact hh
          clear HV6
          go_wp2_with fail
          refine HPS.out.mono ?_
          rintro e y7 ⟨rfl, hb7⟩
          have hb8 := hb7.trans ((below_alloc4 y7 (.cells (lcs l) 35)).mono hb7.size)
          have HR8 := hide (HR6.out.below hb8)
          have HA8 := hide ((hb8.block _ (blk_lt HA6.out)).trans HA6.out)
          have HC8 : Hid ((y7.alloc (.cells (lcs l) 35)).heap[y7.heap.size]? = some (.cells (lcs l) 35 (0, 0))) := heap_alloc_new y7 _
          have HT8 := hide HR8.out.t
          clear hb7 hb8 HPS HR6 HA6
          have HEQ : Hid (∀ w, (Op.equalIn 10000 35 (.agg (lcs l)) (.agg (lcs l))).run Tryd.prog w = .ok true w) := fun w => by
            have hh := eqlk w (a := l) (b := l) HLI.out.d HLI.out.d
            rw [decide_eq_true rfl] at hh
            exact hh
          have h76 : decide ((76 : Int) < ((lbytes l).length : Int)) = false := decide_eq_false (by have := HBL.out; omega)
          have HTX := hide (fun wy => texts_any wy l HLK.out HLI.out)
          go_wp2_with (first
            | (go_at_call 11; refine (num4_any _ _).mono ?_; rintro e yn2 ⟨rfl, hyn2⟩; subst hyn2)
            | (refine wpList_storeLk rfl rfl y7.heap.size _ l rfl rfl rfl (heap_alloc_new y7 _) ?_; rw [World.setRow_alloc_new]; generalize y7.alloc (.cells (lcs l) 35) = y8 at *; generalize y7.heap.size = g14 at *)
            | (refine wpList_loadLk rfl rfl g11 (lcs l) rfl HLN.out HA8.out ?_)
            | (refine wpList_loadLk rfl rfl g7 (lcs l) rfl HLN.out HT8.out ?_)
            | (refine wpList_loadLk rfl rfl g14 (lcs l) rfl HLN.out HC8.out ?_)
            | (refine wpList_nelk rfl rfl (lcs l) (lcs l) true rfl rfl (HEQ.out _) ?_))
          refine (HTX.out _).mono ?_
          rintro e y9 ⟨rfl, hb9⟩
          have HR9 := hide (HR8.out.below hb9)
          clear hb9 HTX HR8 HA8 HC8 HT8 h76
          go_wp2_with fail
          refine (copy_any y9 _ (lbytes l) HR9.out.b (by have := HBL.out; omega)).mono ?_
          rintro e ya ⟨vc, rfl, hoa, hba⟩
          have HL1 := hide (one_bsl ya 0 (by decide))
          have HA1 := hide (hoa.alloc (.cells #[.int .u8 ((0 : Nat) : Int)] 5))
          have hbb := hba.trans ((below_alloc4 ya (.cells #[.int .u8 ((0 : Nat) : Int)] 5)).mono hba.size)
          have HZ1 : Hid ((lbytes l).length + ([0] : List Nat).length ≤ 140737488355328) := by have := HBL.out; show _ ≤ _; rw [List.length_singleton]; omega
          have HBZ := hide hbb.size
          obtain ⟨aa, ca, hva, hq1, hq2, hq3⟩ := own_form hoa
          subst hva
          clear hoa hq1 hq2 hq3 hba
          go_wp2_with (at_builtin; refine append_bsl rfl _ _ rfl y9.heap.size _ (lbytes l).length (lbytes l) rfl HA1.out _ [0] rfl HL1.out HZ1.out HBZ.out ?_)
          intro vd yd hod hgd
          have hkd : Below y9.heap.size (ya.alloc (.cells #[.int .u8 ((0 : Nat) : Int)] 5)) yd := (Below.refl _ _).grown hgd HBZ.out (fun g hg => (HA1.out.lt g hg).1)
          have HRd := hide (HR9.out.below (hbb.trans hkd))
          have HVd : Hid (BSl yd vd (lbytes l ++ [0])) := BSl.own (n := (lbytes l).length + 1) hod (fun x hx => by
            rcases List.mem_append.1 hx with h | h
            · exact HBD.out x h
            · simp at h; omega)
          obtain ⟨ad, cd, hvd, hq1, hq2, hq3⟩ := own_form hod
          subst hvd
          clear hod hgd hkd hbb hq1 hq2 hq3 HR9 HL1 HA1
          have HPS : Hid (Calls Tryd.prog 29 #[.slice ad ((lbytes l).length + ([0] : List Nat).length) cd] yd fun e w' => e = .returned (.tuple #[.agg (lcs Lk.none), .int .i64 44]) ∧ Below yd.heap.size yd w') := by
            have hh := parse4_any yd _ (lbytes l ++ [0]) HVd.out
            rw [HPL.out] at hh
            exact hh
          clear HVd
          go_wp2_with fail
          refine HPS.out.mono ?_
          rintro e ye ⟨rfl, hbe⟩
          have hbf := hbe.trans ((below_alloc4 ye (.cells (lcs Lk.none) 35)).mono hbe.size)
          have HRf := hide (HRd.out.below hbf)
          clear hbe hbf HPS HRd
          go_wp2_with (first
            | (go_at_call 11; refine (num4_any _ _).mono ?_; rintro e yn2 ⟨rfl, hyn2⟩; subst hyn2)
            | (refine wpList_storeLk rfl rfl ye.heap.size _ Lk.none rfl rfl rfl (heap_alloc_new ye _) ?_; rw [World.setRow_alloc_new]; generalize ye.alloc (.cells (lcs Lk.none) 35) = yf at *; have HTf := hide HRf.out.t)
            | (refine wpList_loadLk rfl rfl g7 (lcs l) rfl HLN.out HTf.out ?_))
          have HTX : Hid (∀ wy, Calls Tryd.prog 9 #[.agg (lcs l)] wy fun e w' => e = .returned (.tuple #[.string (nstr (ltext l)), .int .i64 0]) ∧ Below wy.heap.size wy w') := fun wy => by
            have hh := text4_any wy l HLI.out
            have e : lttx l = (ltext l, 0) := by unfold lttx; rw [if_pos HLK.out]
            rw [e] at hh
            exact hh
          refine (HTX.out _).mono ?_
          rintro e yg ⟨rfl, hbg⟩
          have HRg := hide (HRf.out.below hbg)
          have HTg := hide HRg.out.t
          have HLg := hide HRg.out.s.l
          have HNX := hide (HRg.out.next HLK.out HLI.out)
          clear hbg HTX HRf HTf
          rcases HRg.out.s.p with ⟨hpv, hu4, hss⟩ | ⟨p, hpv, hpk, hpd, hpb, hps, hpn⟩
          · as_aux_lemma =>
            subst hu4
            go_wp2_with (first
              | (refine wpList_loadLk rfl rfl g7 (lcs l) rfl HLN.out HTg.out ?_)
              | (refine wpList_storeLk rfl rfl gL (lcs (pv.getD Lk.none)) l rfl rfl rfl HLg.out ?_))
            go_roundw
            case rel => exact ⟨i + 1, nstr (ltext l), some l, by omega, by go_num, rfl, HNX⟩
            case measure => simp [intOf]; omega
          · subst hpv
            subst hps
            have HPK := hide hpk
            have HPD := hide hpd
            have HPBB := hide hpb
            obtain ⟨⟨au4, cu4, hu4, hnu4, hcu4⟩, hmu4, hbu4⟩ := hpb
            subst hu4
            simp only [Option.getD_some] at HLg
            have hplen : (0 : Int) < ((lbytes p).length : Int) := by
              have : 0 < (lbytes p).length := by unfold lbytes; split <;> simp
              omega
            have HPN : Hid ((lcs p).size = 4) := rfl
            have HEQP : Hid (∀ w, (Op.equalIn 10000 35 (.agg (lcs l)) (.agg (lcs p))).run Tryd.prog w = .ok (decide (l = p)) w) := fun w => eqlk w HLI.out.d HPD.out.d
            clear hnu4 hcu4 hmu4 hbu4 hpk hpd hpn
            generalize hsm : decide (l = p) = sm at *
            have HSM := hide hsm
            clear hsm
            go_wp2_with (first
              | (refine wpList_loadLk rfl rfl g7 (lcs l) rfl HLN.out HTg.out ?_)
              | (refine wpList_loadLk rfl rfl gL (lcs p) rfl HPN.out HLg.out ?_)
              | (refine wpList_eqlk rfl rfl (lcs l) (lcs p) sm rfl rfl (HEQP.out _) ?_))
            refine (eq_any yg _ _ (lbytes l) (lbytes p) HRg.out.b HPBB.out).mono ?_
            rintro e yh ⟨rfl, hkh⟩
            have hbh := hkh.below (Nat.le_refl _) (fun _ h => h.elim)
            have HRh := hide (HRg.out.below hbh)
            have HPh := hide (HPBB.out.move (keep_below hbh))
            have heb : decide (lbytes l = lbytes p) = sm := by
              rw [← HSM.out, Bool.eq_iff_iff, decide_eq_true_iff, decide_eq_true_iff]
              exact lbytes_eq HLK.out HPK.out
            rw [heb]
            have hts : ((nstr (ltext l)).toList == (nstr (ltext p)).toList) = sm := by
              rw [eq_str (ltext_byte HLK.out), sl_nstr (ltext_byte HPK.out), ← HSM.out, Bool.eq_iff_iff, decide_eq_true_iff, decide_eq_true_iff]
              exact ltext_eq HLK.out HPK.out HLI.out.d HPD.out.d
            clear hkh hbh heb HRg HPBB HTg HLg HNX HEQP
            cases sm with
            | true =>
                as_aux_lemma =>
                go_wp2_with fail
                have HRk := HRh
                generalize hyk : yh = yk at *
                clear hyk
                have HTk := hide HRk.out.t
                have HLk : Hid (yk.heap[gL]? = some (.cells (lcs p) 35 (0, 0))) := HRk.out.s.l
                have HQT : Hid (∀ wx, (∃ t : Ext yk, wx = t.w') → wx.heap[g7]? = some (.cells (lcs l) 35 (0, 0))) := by
                  rintro _ ⟨t, rfl⟩
                  exact (t.h.block _ (blk_lt HTk.out)).trans HTk.out
                have HQL : Hid (∀ wx, (∃ t : Ext yk, wx = t.w') → wx.heap[gL]? = some (.cells (lcs p) 35 (0, 0))) := by
                  rintro _ ⟨t, rfl⟩
                  exact (t.h.block _ (blk_lt HLk.out)).trans HLk.out
                have HCL : Hid (∀ (t : Ext yk) (x y : Lk), (x = l ∨ x = p) → (y = l ∨ y = p) → Calls Tryd.prog 23 #[.agg (lcs x), .agg (lcs y)] t.w' fun e w'' => e = .returned (.bool (llt x y)) ∧ ∃ t' : Ext yk, w'' = t'.w') := fun t x y hx hy => Calls.ext_below (less4_any t.w' x y (by rcases hx with rfl | rfl; exact HLI.out; exact HPD.out) (by rcases hy with rfl | rfl; exact HLI.out; exact HPD.out))
                have hab : (llt l p == llt p l) = true := by rw [llt_one HLK.out HPK.out, HSM.out]
                have HPS4 := HPN
                refine region_ext (by kernel_rfl) (by kernel_rfl) ?_
                repeat (
                  refine wpQuiet_step (fun K hK => ?_)
                  first
                    | (refine qstep_link rfl rfl g7 (lcs l) rfl HLN.out HQT.out (hK _ ?_); clear hK K)
                    | (refine qstep_link rfl rfl gL (lcs p) rfl HPN.out HQL.out (hK _ ?_); clear hK K)
                    | (go_simp
                       first
                         | (refine hK _ ?_; clear hK K)
                         | (apply Exists.intro
                            refine ⟨fun _ => ?_, hK _ ?_⟩
                            (go_at_call 23; exact HCL.out _ _ _ (by first | exact .inl rfl | exact .inr rfl) (by first | exact .inl rfl | exact .inr rfl))
                            clear hK K)))
                refine wpQuiet_nil ?_
                rintro _ ⟨tq, rfl⟩
                have HRz := hide (HRk.out.below tq.h)
                have HTz := hide HRz.out.t
                have HLz : Hid (tq.w'.heap[gL]? = some (.cells (lcs p) 35 (0, 0))) := HRz.out.s.l
                have HNX := hide (HRz.out.next HLK.out HLI.out)
                go_wp2_with (first
                  | (refine wpList_loadLk rfl rfl g7 (lcs l) rfl HLN.out HTz.out ?_)
                  | (refine wpList_storeLk rfl rfl gL (lcs p) l rfl rfl rfl HLz.out ?_))
                go_roundw
                case rel => exact ⟨i + 1, nstr (ltext l), some l, by omega, by go_num, rfl, HNX⟩
                case measure => simp [intOf]; omega
            | false =>
                as_aux_lemma =>
                have HNE : Hid (l ≠ p) := of_decide_eq_false HSM.out
                go_wp2_with fail
                refine (begins4_any yh _ _ (lbytes l) (lbytes p) HRh.out.b HPh.out).mono ?_
                rintro e yi ⟨rfl, hbi⟩
                rw [begins_no HLK.out HPK.out HNE.out]
                have HRi := hide (HRh.out.below hbi)
                have HPi := hide (HPh.out.move (keep_below hbi))
                clear hbi HRh HPh
                go_wp2_with fail
                refine (begins4_any yi _ _ (lbytes p) (lbytes l) HPi.out HRi.out.b).mono ?_
                rintro e yk ⟨rfl, hbk⟩
                rw [begins_no HPK.out HLK.out (fun e => HNE.out e.symm)]
                have HRk := hide (HRi.out.below hbk)
                clear hbk HRi HPi
                go_wp2_with fail
                have HTk := hide HRk.out.t
                have HLk : Hid (yk.heap[gL]? = some (.cells (lcs p) 35 (0, 0))) := HRk.out.s.l
                have HQT : Hid (∀ wx, (∃ t : Ext yk, wx = t.w') → wx.heap[g7]? = some (.cells (lcs l) 35 (0, 0))) := by
                  rintro _ ⟨t, rfl⟩
                  exact (t.h.block _ (blk_lt HTk.out)).trans HTk.out
                have HQL : Hid (∀ wx, (∃ t : Ext yk, wx = t.w') → wx.heap[gL]? = some (.cells (lcs p) 35 (0, 0))) := by
                  rintro _ ⟨t, rfl⟩
                  exact (t.h.block _ (blk_lt HLk.out)).trans HLk.out
                have HCL : Hid (∀ (t : Ext yk) (x y : Lk), (x = l ∨ x = p) → (y = l ∨ y = p) → Calls Tryd.prog 23 #[.agg (lcs x), .agg (lcs y)] t.w' fun e w'' => e = .returned (.bool (llt x y)) ∧ ∃ t' : Ext yk, w'' = t'.w') := fun t x y hx hy => Calls.ext_below (less4_any t.w' x y (by rcases hx with rfl | rfl; exact HLI.out; exact HPD.out) (by rcases hy with rfl | rfl; exact HLI.out; exact HPD.out))
                have hab : (llt l p == llt p l) = false := by rw [llt_one HLK.out HPK.out, HSM.out]
                have HPS4 := HPN
                refine region_ext (by kernel_rfl) (by kernel_rfl) ?_
                repeat (
                  refine wpQuiet_step (fun K hK => ?_)
                  first
                    | (refine qstep_link rfl rfl g7 (lcs l) rfl HLN.out HQT.out (hK _ ?_); clear hK K)
                    | (refine qstep_link rfl rfl gL (lcs p) rfl HPN.out HQL.out (hK _ ?_); clear hK K)
                    | (go_simp
                       first
                         | (refine hK _ ?_; clear hK K)
                         | (apply Exists.intro
                            refine ⟨fun _ => ?_, hK _ ?_⟩
                            (go_at_call 23; exact HCL.out _ _ _ (by first | exact .inl rfl | exact .inr rfl) (by first | exact .inl rfl | exact .inr rfl))
                            clear hK K)))
                refine wpQuiet_nil ?_
                rintro _ ⟨tq, rfl⟩
                have HRz := hide (HRk.out.below tq.h)
                have HTz := hide HRz.out.t
                have HLz : Hid (tq.w'.heap[gL]? = some (.cells (lcs p) 35 (0, 0))) := HRz.out.s.l
                have HNX := hide (HRz.out.next HLK.out HLI.out)
                go_wp2_with (first
                  | (refine wpList_loadLk rfl rfl g7 (lcs l) rfl HLN.out HTz.out ?_)
                  | (refine wpList_storeLk rfl rfl gL (lcs p) l rfl rfl rfl HLz.out ?_))
                go_roundw
                case rel => exact ⟨i + 1, nstr (ltext l), some l, by omega, by go_num, rfl, HNX⟩
                case measure => simp [intOf]; omega)
      · as_aux_lemma =>
        rw [if_neg hlk] at HE
        have hE := HE.out
        subst hE
        go_wp2_with (go_at_call 11; refine (num4_any _ _).mono ?_; rintro e yn ⟨rfl, hyn⟩; subst hyn)
        go_roundw
        case rel => exact ⟨i + 1, ss, pv, by omega, by go_num, rfl, HXc⟩
        case measure => simp [intOf]; omega
    · have g34 : ((i : Int) < (nL : Int) ∧ ¬ (i : Int) < 1000) ∨ ¬ (i : Int) < (nL : Int) := by omega
      clear hil
      rcases g34 with ⟨g3, g4⟩ | g3
      all_goals (as_aux_lemma =>
        go_wp2_with fail
        refine (begun4_any wr HX.out.k.c).mono ?_
        rintro e w9 ⟨rfl, hb9⟩
        have HB9 := hide (HX.out.below hb9).k.b
        clear hb9
        go_wp2_with fail
        go_ret
        exact ⟨rfl, HB9.out⟩)
end
section
open Go.ChangeShapes Go.WideShapes Go.ChangeAt Go.RowKit Go.Deep Go.Joins
set_option maxRecDepth 100000 in
theorem lback_lifted (os : Os) (started : os.Started) (H : Type) (enc : TypeId × Value → H) :
    ReturnsInHanded {} Tryd.checked os 6 .any (fun w args => (Rows.linkBackSpec.pre enc Tryd.prog Tryd.f6 Rows.linkBackRow.domain false w args ∧ laidMet Tryd.prog Rows.linkBackRow.laid w) ∧ sizedMet enc Tryd.prog Tryd.f6 (OpenSpec.ofChange Rows.linkBackSpec) false w args)
      (Rows.linkBackSpec.post enc Tryd.prog Tryd.f6 false true false false) := by
  refine returnsInHanded_of_change_and (C := Tryd.checked) (X := fun w _ => laidMet Tryd.prog Rows.linkBackRow.laid w) (fun _ _ _ hh h => h.of_heap hh) Tryd.own started (by kernel_rfl) Tryd.func6
    (ChangeSpec.witness_at (enc := enc) (C := Tryd.checked) (os := os) (X := fun w _ => laidMet Tryd.prog Rows.linkBackRow.laid w) false (laidWorld os) #[.agg #[.slice none 0 0, .slice none 0 0, .slice none 0 0, .slice none 0 0, .slice none 0 0]] 8 rfl (by kernel_rfl) (by kernel_rfl) (by kernel_rfl) (by kernel_rfl) (by kernel_rfl) (laid_met os _)) ?_
  intro W base args ds gs before hval0 hW _ hsz0 hLd _
  have hval : ∀ (j : Nat) t v, Tryd.f6.params[j]? = some t → args[j]? = some v → Value.okWide Tryd.prog W .any base t v := hval0
  have hsz : (DataW.weightsEach Tryd.prog (Tryd.f6.params.toList ++ Rows.linkBackSpec.plain.varTypes Tryd.prog) (ds ++ gs)).all (· ≤ reachBytes) = true := hsz0
  have hW' := hW
  have hcb : Cb W := cb_of_laid hLd
  obtain ⟨p, q, hA0, hV, rfl, hfz, hnd⟩ := hW
  have hA : DataW.TrodAll enc Tryd.prog W 0 (fun _ => true) true Tryd.f6.params.toList args.toList ds p := hA0
  rw [Tryd.params6] at hA hval hsz
  obtain ⟨v0, d0, rfl, rfl, h0⟩ := trodAll_one hA
  obtain ⟨rfl, rfl⟩ := trodVars_none hV
  have k0 := h0
  have lt0 : ∀ x ∈ p, x.block < W.heap.size := by obtain ⟨m, hm⟩ := k0; exact DataW.trod_lt m _ _ _ hm
  have hwalk : Calls Tryd.prog 6 #[v0] W fun e w' => e = .returned (.bool true) ∧ Below W.heap.size W w' := by
    have hs1 : (d0.weights Tryd.prog 28).all (· ≤ reachBytes) = true := by
      have e : DataW.weightsEach Tryd.prog ([28] ++ Rows.linkBackSpec.plain.varTypes Tryd.prog) ([d0] ++ []) = d0.weights Tryd.prog 28 ++ DataW.weightsEach Tryd.prog (Rows.linkBackSpec.plain.varTypes Tryd.prog) [] := rfl
      rw [e, List.all_append, Bool.and_eq_true] at hsz
      exact hsz.1
    obtain ⟨aL, nL, cL, v1, aB, nB, cB, aS, nS, cS, v4, rfl, hL, hB, hS⟩ := links_arg (hval 0 28 v0 rfl rfl) h0 hs1
    exact back4_any W aL nL cL aB nB cB v1 _ v4 hcb hL hB
  clear hA0 hval0
  refine hwalk.mono fun e W' ⟨he, bel⟩ => ?_
  subst he
  exact ⟨_, rfl, _, _, _, [], _, [], hW', trodAll_mk1 (shut_bool Tryd.underlying4 _), trodAll_mk1 (Below.trod Tryd.laidOut (by kernel_rfl) (of_decide_eq_true (by kernel_rfl)) k0 bel lt0), rfl, bel.frame _, fun h => by cases h⟩

theorem lback_row : Rows.LinkBackSaid :=
  OpenClaim.holds_of_wide 6 Tryd.f6 rfl rfl rfl rfl rfl rfl rfl ⟨rfl, rfl, rfl, rfl, rfl⟩ rfl rfl rfl rfl rfl (by kernel_rfl) Tryd.func6 (by kernel_rfl)
    (of_decide_eq_true (by kernel_rfl)) (by unfold Func.isWrapper; first | (rw [if_pos (by decide +kernel)]; kernel_rfl) | (rw [if_neg (by decide +kernel)]; exact ⟨rfl, rfl⟩))
    (fun os started H enc _ => lback_lifted os started H enc)

theorem lback_holds : Rows.LinkBackCardSaid :=
  Claim7.holds_tied_plain_at .later [] [.data] true (true, "acb858d1d2edd2252cede6da87f18234aef21eb2925c22bf7a018d6de849c8c4") false
    lback_row (fun _ h => by cases h) (by kernel_rfl) (fun _ h => by cases h) linkBack_row_tie rfl ⟨rfl, rfl⟩ (by kernel_rfl) rfl
    (fun f fn hf hfn => by
      obtain rfl : f = 6 := Option.some.inj ((show Tryd.prog.funcNamed "trellis/trellislaw4.LinkBack" = some 6 by kernel_rfl).symm.trans hf) |>.symm
      obtain rfl : fn = Tryd.f6 := (Option.some.inj (Tryd.func6.symm.trans hfn)).symm
      exact ⟨by kernel_rfl, fun j t ht => by
        rw [Tryd.params6] at ht
        have h3 : t = 28 := by
          rcases j with _ | j
          · simpa using ht.symm
          · simp at ht
        subst h3
        exact (show Tryd.prog.wantsStandIn 28 = false by kernel_rfl)⟩)
    (by kernel_rfl)
#print axioms lback_holds
end
end Go.Proofs.YtidglddjinfncaaDoor
