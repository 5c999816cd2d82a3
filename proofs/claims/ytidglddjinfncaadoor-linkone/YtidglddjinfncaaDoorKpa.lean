import Derived.Test.YtidglddjinfncaaDoorJn
import Derived.Test.YtidglddjinfncaaDoorTie
import Derived.Test.YtidglddjinfncaaDoorCards
import Derived.ProofKit
namespace Go.Proofs.YtidglddjinfncaaDoor
section
open Go.RowKit Go
/-- What a walk over links has in hand. -/
structure Lks (w wx : World) (c : Array Value) : Prop where
  t : wx.heap[w.heap.size]? = some (.cells c 28 (0, 0))
  b : Below w.heap.size w wx
  c : Cb wx
theorem Lks.below {w wx wy : World} {c : Array Value} (h : Lks w wx c) (hb : Below wx.heap.size wx wy) : Lks w wy c := ⟨(hb.block _ (blk_lt h.t)).trans h.t, h.b.trans (hb.mono h.b.size), h.c.below hb⟩
theorem Lks.start {w : World} (c : Array Value) (hcb : Cb w) : Lks w (w.alloc (.cells c 28)) c := ⟨heap_alloc_new w _, below_alloc4 w _, hcb.below (below_alloc4 w _)⟩
/-- A link somewhere in a block. -/
theorem load_lk {w : World} (g o : Nat) (l : Lk) (hc : ∀ j u, (lcs l)[j]? = some u → w.cell? ⟨g, o + j, none⟩ = some u) : (Instr.loadAt 35 (.pointer (some ⟨g, o, none⟩))).run Tryd.prog w = .ok (.agg (lcs l)) w := by
  have hl := run_loadCells_list (P := Tryd.prog) (w := w) ⟨g, o, none⟩ (lcs l).toList (fun j v hv => by rw [addr_add]; exact hc j v (by simpa using hv))
  have hi := info61
  simp only [Instr.loadAt, Instr.sureAddr, Sem.run_bind, Sem.run_pure, Result.andThen]
  cases hq : Tryd.prog.info? 35 with
  | none => simp [hq] at hi
  | some i =>
    have hs : i.size = 4 := by simpa [hq] using hi
    have hn : (lcs l).toList.length = 4 := rfl
    rw [hn] at hl
    have ha : (isAgg 35).run Tryd.prog w = .ok true w := by
      unfold isAgg
      rw [Sem.run_bind, run_underlying Tryd.underlying35 w]
      simp
    simp [loadVar, ha, sizeOf, typeInfo, hq, hs, hl]
theorem qstep_lkAt {C : World → Prop} {ops : Array Oper} {o : Oper} {a : Act} {K : Act → Prop} {p : Operand} (hgd : Region.wanted o (yielded ops a.tmps) = true) (ho : o.op = .load 35 p) (g off : Nat) (l : Lk)
    (hp : a.eval p = .pointer (some ⟨g, off, none⟩)) (hc : ∀ w, C w → ∀ j u, (lcs l)[j]? = some u → w.cell? ⟨g, off + j, none⟩ = some u)
    (h : K (a.put o.dst (.agg (lcs l)))) : if Region.wanted o (yielded ops a.tmps) = true then o.quiet Tryd.prog a C K else K (a.put o.dst undef) := by
  rw [if_pos hgd]
  refine ⟨.agg (lcs l), fun w hC => ?_, h⟩
  unfold Oper.quietAt execOp
  simp only [ho, Sem.run_bind, hp, load_lk g off l (hc w hC), Result.andThen_ok]
  exact ⟨rfl, rfl⟩
theorem wpList_lkAt {ops : Array Oper} {rest : List Oper} {o : Oper} {a : Act} {Q : Exit → Act → World → Prop} {w : World} {p : Operand} (hgd : Region.wanted o (yielded ops a.tmps) = true) (ho : o.op = .load 35 p) (g off : Nat) (l : Lk)
    (hp : a.eval p = .pointer (some ⟨g, off, none⟩)) (hc : ∀ j u, (lcs l)[j]? = some u → w.cell? ⟨g, off + j, none⟩ = some u)
    (h : wpList Tryd.prog ops Q rest (a.put o.dst (.agg (lcs l))) w) : wpList Tryd.prog ops Q (o :: rest) a w := by
  refine wpList_wanted hgd fun K hK => ?_
  unfold Oper.wp execOp
  simp only [ho, Sem.run_bind, hp, load_lk g off l hc, Result.andThen_ok]
  exact hK _ _ h
/-- The reference's Less. -/
theorem refLess_any (w : World) (a b : Lk) (ha : Lkb a) (hb : Lkb b) : Calls Tryd.prog 24 #[lkv a, lkv b] w fun e w' => e = .returned (.bool (llt a b)) ∧ Below w.heap.size w w' := by
  have h := lLess_any w a.v a.c a.h (nstr a.d) b.v b.c b.h (nstr b.d) ha.h (by rw [ha.size]; exact ha.n) hb.h (by rw [hb.size]; exact hb.n)
  unfold lb at h
  rw [sl_nstr ha.d, sl_nstr hb.d] at h
  exact h
set_option maxRecDepth 1000000 in
set_option maxHeartbeats 2000000 in
theorem order_any (w : World) (aL : Option Addr) (nL cL : Nat) (v1 v2 v3 v4 : Value) (hcb : Cb w) (hL : LinksIn w (.slice aL nL cL) nL) :
    Calls Tryd.prog 5 #[.agg #[.slice aL nL cL, v1, v2, v3, v4]] w fun e w' => e = .returned (.bool true) ∧ Below w.heap.size w w' := by
  have HX0 := hide (Lks.start #[.slice aL nL cL, v1, v2, v3, v4] hcb)
  have HL := hide hL
  have hmx := hL.max
  clear hcb hL
  go_enter Tryd.func5, Tryd.ntmps5
  go_wp2_with fail
  generalize w.alloc (.cells #[.slice aL nL cL, v1, v2, v3, v4] 28) = w0 at *
  refine (begun4_any w0 HX0.out.c).mono ?_
  rintro e w1 ⟨rfl, hb1⟩
  have HX1 := hide (HX0.out.below hb1)
  clear hb1 HX0
  go_wp2_with fail
  go_loopw [3] (fun ii wx => ∃ i : Nat, i ≤ 60 ∧ ii = .int .i64 (i : Nat) ∧ Hid (Lks w wx #[.slice aL nL cL, v1, v2, v3, v4])) (fun ii _ => 60 - (intOf ii).toNat)
  case atStart => exact ⟨0, by omega, rfl, HX1⟩
  case round =>
    obtain ⟨i, hi, rfl, HX⟩ := hrel
    clear HX1
    have q0 : wr.cell? ⟨w.heap.size, 0, none⟩ = some (.slice aL nL cL) := blk_cell HX.out.t rfl
    by_cases hil : i < nL ∧ i < 60
    · obtain ⟨hil, hi60⟩ := hil
      have g1 : (i : Int) < (nL : Int) := by omega
      have g2 : (i : Int) < 60 := by omega
      obtain ⟨a', cap', hv, hform⟩ := HL.out.form
      injection hv with e1 e2 e3
      subst e1
      obtain ⟨b, off, rfl, hcells⟩ := hform.resolve_left (by omega)
      obtain ⟨li, hli, hci⟩ := hcells i hil
      have HLI := hide hli
      have HCI := hide hci
      have HCS := hide hcells
      clear hform hcells hli hci e2 e3
      go_wp2_with fail
      go_loopw [4] (fun kk wx => ∃ k : Nat, k ≤ 60 ∧ kk = .int .i64 (k : Nat) ∧ Hid (Lks w wx #[.slice (some ⟨b, off, none⟩) nL cL, v1, v2, v3, v4])) (fun kk _ => 60 - (intOf kk).toNat)
      case atStart => exact ⟨0, by omega, rfl, HX⟩
      case round => as_aux_lemma =>
        rename World => wz
        obtain ⟨k, hk, rfl, HY⟩ := hrel
        clear HX q0
        have q0 : wz.cell? ⟨w.heap.size, 0, none⟩ = some (.slice (some ⟨b, off, none⟩) nL cL) := blk_cell HY.out.t rfl
        by_cases hkl : k < nL ∧ k < 60
        · obtain ⟨hkl, hk60⟩ := hkl
          have g3 : (k : Int) < (nL : Int) := by omega
          have g4 : (k : Int) < 60 := by omega
          obtain ⟨lk, hlk, hck⟩ := HCS.out k hkl
          go_wp2_with fail
          have k0 : ∀ t : Ext wz, t.w'.cell? ⟨w.heap.size, 0, none⟩ = some (.slice (some ⟨b, off, none⟩) nL cL) := fun t => Ext.cell q0 t
          have HQI : Hid (∀ wx, (∃ t : Ext wz, wx = t.w') → ∀ j u, (lcs li)[j]? = some u → wx.cell? ⟨b, off + i * 4 + j, none⟩ = some u) := by
            rintro _ ⟨t, rfl⟩ j u hu
            exact keep_below t.h _ _ (keep_below HY.out.b _ _ (HCI.out j u hu))
          have HQK : Hid (∀ wx, (∃ t : Ext wz, wx = t.w') → ∀ j u, (lcs lk)[j]? = some u → wx.cell? ⟨b, off + k * 4 + j, none⟩ = some u) := by
            rintro _ ⟨t, rfl⟩ j u hu
            exact keep_below t.h _ _ (keep_below HY.out.b _ _ (hck j u hu))
          have HC1 : Hid (∀ t : Ext wz, Calls Tryd.prog 23 #[.agg (lcs li), .agg (lcs lk)] t.w' fun e w'' => e = .returned (.bool (llt li lk)) ∧ ∃ t' : Ext wz, w'' = t'.w') := fun t => Calls.ext_below (less4_any t.w' li lk HLI.out hlk)
          have HC2 : Hid (∀ t : Ext wz, Calls Tryd.prog 24 #[.agg (lcs li), .agg (lcs lk)] t.w' fun e w'' => e = .returned (.bool (llt li lk)) ∧ ∃ t' : Ext wz, w'' = t'.w') := fun t => Calls.ext_below (refLess_any t.w' li lk HLI.out hlk)
          generalize llt li lk = lt at *
          refine region_ext (by kernel_rfl) (by kernel_rfl) ?_
          repeat (
            refine wpQuiet_step (fun K hK => ?_)
            first
              | (refine qstep_lkAt rfl rfl b (off + i * 4) li rfl HQI.out (hK _ ?_); clear hK K)
              | (refine qstep_lkAt rfl rfl b (off + k * 4) lk rfl HQK.out (hK _ ?_); clear hK K)
              | (go_simp
                 first
                   | (refine hK _ ?_; clear hK K)
                   | (apply Exists.intro
                      refine ⟨fun _ => ?_, hK _ ?_⟩
                      (first
                        | (go_at_call 23; exact HC1.out _)
                        | (go_at_call 24; exact HC2.out _))
                      clear hK K)))
          refine wpQuiet_nil ?_
          rintro _ ⟨tq, rfl⟩
          have HZ := hide (HY.out.below tq.h)
          go_wp2_with fail
          go_roundw
          case rel => exact ⟨k + 1, by omega, by go_num, HZ⟩
          case measure => simp [intOf]; omega
        · by_cases h3 : k < nL
          · have g3 : (k : Int) < (nL : Int) := by omega
            have g4 : ¬ (k : Int) < 60 := by omega
            go_wp2_with fail
            go_roundw
            case rel => exact ⟨i + 1, by omega, by go_num, HY⟩
            case measure => simp [intOf]; omega
          · have g3 : ¬ (k : Int) < (nL : Int) := by omega
            go_wp2_with fail
            go_roundw
            case rel => exact ⟨i + 1, by omega, by go_num, HY⟩
            case measure => simp [intOf]; omega
    · by_cases h3 : i < nL
      · have g3 : (i : Int) < (nL : Int) := by omega
        have g4 : ¬ (i : Int) < 60 := by omega
        go_wp2_with fail
        refine (begun4_any wr HX.out.c).mono ?_
        rintro e w9 ⟨rfl, hb9⟩
        have HB9 := hide (HX.out.below hb9).b
        clear hb9
        go_wp2_with fail
        go_ret
        exact ⟨rfl, HB9.out⟩
      · have g3 : ¬ (i : Int) < (nL : Int) := by omega
        go_wp2_with fail
        refine (begun4_any wr HX.out.c).mono ?_
        rintro e w9 ⟨rfl, hb9⟩
        have HB9 := hide (HX.out.below hb9).b
        clear hb9
        go_wp2_with fail
        go_ret
        exact ⟨rfl, HB9.out⟩
end
section
open Go.RowKit Go
theorem lthird_bad {v : Int} {c a : Nat} {b : List Nat} (h : (lthird v c a b).2.2 ≠ 0) : (lthird v c a b).1 = Lk.none ∧ (lthird v c a b).2.1 = 0 := by
  unfold lthird at h ⊢
  split
  · rename_i h0
    rw [if_pos h0] at h
    exact absurd rfl h
  · exact ⟨rfl, rfl⟩
theorem lfirst_bad {b : List Nat} (h : (lfirst b).2.2 ≠ 0) : (lfirst b).1 = Lk.none ∧ (lfirst b).2.1 = 0 := by
  unfold lfirst at h ⊢
  split
  · rename_i h0
    rw [if_pos h0] at h
    exact lthird_bad h
  · rename_i h0
    rw [if_neg h0] at h
    split
    · exact ⟨rfl, rfl⟩
    · rename_i h1
      rw [if_neg h1] at h
      split
      · exact ⟨rfl, rfl⟩
      · rename_i h2
        rw [if_neg h2] at h
        split
        · exact ⟨rfl, rfl⟩
        · rename_i h3
          rw [if_neg h3] at h
          exact lthird_bad h
theorem lbytes_d {l : Lk} {b : List Nat} (hb : ∀ x ∈ b, x < 256) (e : lbytes l = b) : ∀ x ∈ l.d, x < 256 := fun x hx => hb x (by
  rw [← e]
  unfold lbytes
  split
  · simp [hx]
  · simp [hx])
theorem lok_lkb {l : Lk} (h : lok l) (hd : ∀ x ∈ l.d, x < 256) : Lkb l := by
  have hk := lok_okd h
  unfold okd at hk
  refine ⟨?_, by omega, hd, by omega⟩
  rcases h with h | h
  · omega
  · omega
theorem lparsetext_bad {s : List Nat} (h : (lparsetext s).2 ≠ 0) : (lparsetext s).1 = Lk.none := by
  unfold lparsetext at h ⊢
  split
  · rfl
  · rename_i h1
    rw [if_neg h1] at h
    split
    · rfl
    · rename_i h2
      rw [if_neg h2] at h
      cases ht : ltake s with
      | none => rfl
      | some p =>
        obtain ⟨v, b⟩ := p
        rw [ht] at h
        simp only at h ⊢
        split
        · rfl
        · rename_i h3
          rw [if_neg h3] at h
          split
          · rfl
          · rename_i h4
            rw [if_neg h4] at h
            exact absurd rfl h
/-- Whether one of the first texts is this one. -/
def fnd (l : Lk) (s : List Nat) : Nat → Bool
  | 0 => decide ((lttx l).1 = s)
  | k + 1 => fnd l s k || (decide ((ltin l ((k + 1 : Nat) : Int)).2 = 0) && decide ((ltin l ((k + 1 : Nat) : Int)).1 = s))
theorem fnd_mono {l : Lk} {s : List Nat} {k : Nat} (h : fnd l s k = true) : ∀ m, fnd l s (k + m) = true
  | 0 => h
  | m + 1 => by
    show (fnd l s (k + m) || _) = true
    rw [fnd_mono h m]
    rfl
theorem fnd_all {l : Lk} {s : List Nat} (h : lparsetext s = (l, 0)) : fnd l s 3 = true := by
  obtain ⟨hk, hd, h1 | ⟨hv, base, hb1, hb3, hs⟩⟩ := lparsetext_back h
  · have e : fnd l s 0 = true := by
      show decide ((lttx l).1 = s) = true
      unfold lttx
      rw [if_pos hk, h1]
      simp
    exact fnd_mono e 3
  · have hv0 : l.v ≠ 0 := by omega
    have e : fnd l s base = true := by
      obtain ⟨k, rfl⟩ : ∃ k, base = k + 1 := ⟨base - 1, by omega⟩
      show (fnd l s k || (decide ((ltin l ((k + 1 : Nat) : Int)).2 = 0) && decide ((ltin l ((k + 1 : Nat) : Int)).1 = s))) = true
      rw [ltin_text hk hv0 (n := k + 1) (by omega), hs]
      simp
    have : fnd l s (base + (3 - base)) = true := fnd_mono e _
    have e2 : base + (3 - base) = 3 := by omega
    rwa [e2] at this
theorem eq_str {xs : List Nat} (hx : ∀ x ∈ xs, x < 256) (s : ByteArray) : ((nstr xs).toList == s.toList) = decide (xs = sl s) := by
  have e : s = nstr (sl s) := (nstr_sl s).symm
  by_cases h : xs = sl s
  · rw [h, nstr_sl]
    simp
  · rw [decide_eq_false h, beq_eq_false_iff_ne]
    intro h2
    rw [e] at h2
    exact h (nstr_inj hx (sl_byte s) h2)
theorem lttx_byte {l : Lk} : ∀ x ∈ (lttx l).1, x < 256 := by
  unfold lttx
  split
  · intro x hx
    simp only at hx
    unfold ltext at hx
    split at hx
    · have h := btext_byte b58 (lbytes l)
      rw [btext58] at h
      exact h x hx
    · have h := btext_byte b32 (lbytes l)
      rw [btext32] at h
      unfold ltextin at hx
      rw [if_neg (by decide), if_pos rfl] at hx
      rcases List.mem_cons.1 hx with e | e
      · omega
      · exact h x e
  · simp
theorem ltin_byte {l : Lk} {n : Int} : ∀ x ∈ (ltin l n).1, x < 256 := by
  unfold ltin
  split
  · split
    · simp
    · intro x hx
      rcases List.mem_append.1 hx with e | e
      · exact sl_byte _ x e
      · exact btext_byte _ _ x e
  · simp
/-- What the second half of LinkOne has in hand is what the first has. -/
theorem zlk_none : lcs Lk.none = #[.int .i64 0, .int .u64 0, .int .u64 0, .string ⟨#[]⟩] := rfl
end
section
open Go.RowKit Go
theorem eqlk_none (w : World) (l : Lk) (hd : ∀ x ∈ l.d, x < 256) (h : l = Lk.none) : (Op.equalIn 10000 35 (.agg (lcs l)) (.agg #[.int .i64 0, .int .u64 0, .int .u64 0, .string ⟨#[]⟩])).run Tryd.prog w = .ok true w := by
  have e := eqlk w (a := l) (b := Lk.none) hd (by simp [Lk.none])
  rw [decide_eq_true h] at e
  exact e
set_option maxRecDepth 1000000 in
set_option maxHeartbeats 4000000 in
theorem one_any (w : World) (v0 v1 v4 : Value) (aB : Option Addr) (nB cB : Nat) (aS : Option Addr) (nS cS : Nat) (hcb : Cb w) (hB : RowsIn w (.slice aB nB cB) nB) (hS : StrsIn w (.slice aS nS cS) nS) :
    Calls Tryd.prog 7 #[.agg #[v0, v1, .slice aB nB cB, .slice aS nS cS, v4]] w fun e w' => e = .returned (.bool true) ∧ Below w.heap.size w w' := by
  have HX0 := hide (Lks.start #[v0, v1, .slice aB nB cB, .slice aS nS cS, v4] hcb)
  have HB := hide hB
  have HS := hide hS
  have hmx := hB.max
  have hmy := hS.max
  clear hcb hB hS
  go_enter Tryd.func7, Tryd.ntmps7
  go_wp2_with fail
  generalize w.alloc (.cells #[v0, v1, .slice aB nB cB, .slice aS nS cS, v4] 28) = w0 at *
  refine (begun4_any w0 HX0.out.c).mono ?_
  rintro e w1 ⟨rfl, hb1⟩
  have HX1 := hide (HX0.out.below hb1)
  clear hb1 HX0
  go_wp2_with fail
  go_loopw [3] (fun ii wx => ∃ i : Nat, i ≤ 1000 ∧ ii = .int .i64 (i : Nat) ∧ Hid (Lks w wx #[v0, v1, .slice aB nB cB, .slice aS nS cS, v4])) (fun ii _ => 1000 - (intOf ii).toNat)
  case atStart => exact ⟨0, by omega, rfl, HX1⟩
  case round =>
    obtain ⟨i, hi, rfl, HX⟩ := hrel
    clear HX1
    have q0 : wr.cell? ⟨w.heap.size, 2, none⟩ = some (.slice aB nB cB) := blk_cell HX.out.t rfl
    by_cases hil : i < nB ∧ i < 1000
    · as_aux_lemma =>
      obtain ⟨hil, hi60⟩ := hil
      have g1 : (i : Int) < (nB : Int) := by omega
      have g2 : (i : Int) < 1000 := by omega
      obtain ⟨a', cap', hv, _, hform⟩ := HB.out.form
      injection hv with e1 e2 e3
      subst e1
      obtain ⟨b, off, rfl, hcells⟩ := hform.resolve_left (by omega)
      obtain ⟨u, xs, hcu, hbu, hxl⟩ := hcells i hil
      have HCU := hide hcu
      have HU0 := hide hbu
      have HXL := hide hxl
      have cu : wr.cell? ⟨b, off + i, none⟩ = some u := keep_below HX.out.b _ _ hcu
      obtain ⟨⟨au, cau, hu, hnu, hcau⟩, hmu, hbyu⟩ := hbu
      subst hu
      have HCAU : Hid (xs.length ≤ cau) := hnu.1
      clear hform hcells hcu hxl hnu hcau hbyu e2 e3
      have hmu2 : (xs.length : Int) ≤ 9223372036854775807 := by omega
      go_wp2_with fail
      refine (copy_any wr _ xs (HU0.out.move (keep_below HX.out.b)) HXL.out).mono ?_
      rintro e y1 ⟨vc, rfl, hoc, hbc⟩
      have HXa := hide (HX.out.below hbc)
      have HVC := hide (BSl.own hoc HU0.out.byte)
      obtain ⟨ac, cc, hvc, hq1, hq2, hq3⟩ := own_form hoc
      subst hvc
      clear hoc hbc hq1 hq2 hq3 HX q0 cu
      go_wp2_with fail
      refine (first4_any y1 _ xs HVC.out).mono ?_
      rintro e y2 ⟨rfl, hb2⟩
      have HXb := hide (HXa.out.below hb2)
      have HFB := hide (lfirst_bad (b := xs))
      have HFK := hide (fun l n => lfirst_back (l := l) (n := n) HU0.out.byte)
      clear hb2 HXa HVC
      generalize lfirst xs = r at *
      obtain ⟨l, n, er⟩ := r
      simp only at HFB HFK ⊢
      have HXc := hide (HXb.out.below (below_alloc4 y2 (.cells #[.int .i64 l.v, .int .u64 (l.c : Nat), .int .u64 (l.h : Nat), .string (nstr l.d)] 35)))
      have HLB : Hid ((y2.alloc (.cells #[.int .i64 l.v, .int .u64 (l.c : Nat), .int .u64 (l.h : Nat), .string (nstr l.d)] 35)).heap[y2.heap.size]? = some (.cells (lcs l) 35 (0, 0))) := heap_alloc_new y2 _
      simp only [lkv]
      clear HXb
      go_wp2_with fail
      generalize y2.alloc (.cells #[.int .i64 l.v, .int .u64 (l.c : Nat), .int .u64 (l.h : Nat), .string (nstr l.d)] 35) = y3 at *
      refine (num4_any y3 _).mono ?_
      rintro e y4 ⟨rfl, hy4⟩
      subst hy4
      by_cases her : er = 0
      · subst her
        obtain ⟨hlk, hnl, hby⟩ := HFK.out l n rfl
        have HLK := hide hlk
        have HLD : Hid (Lkb l) := lok_lkb hlk (lbytes_d (fun x hx => HU0.out.byte x (List.mem_of_mem_take hx)) hby)
        have HBY := hide hby
        have HLR : Hid (lrow l = xs.take n) := by show _ = _; unfold lrow; rw [if_pos hlk, hby]
        have hnl2 : (n : Int) ≤ (xs.length : Int) := by omega
        have hnl3 : decide (xs.length < n) = false := decide_eq_false (by omega)
        have hnl4 : decide ((n : Int) < 0) = false := decide_eq_false (by omega)
        have hncap : (n : Int) ≤ (cau : Int) := by have := HCAU.out; omega
        have hcell2 : y4.cell? ⟨w.heap.size, 2, none⟩ = some (.slice (some ⟨b, off, none⟩) nB cB) := blk_cell HXc.out.t rfl
        clear HFB HFK hlk hby
        go_wp2_with (refine wpList_loadLk rfl rfl y2.heap.size (lcs l) rfl rfl HLB.out ?_)
        refine (show Calls Tryd.prog 25 #[.agg (lcs l)] y4 _ from bytes4_any y4 l HLD.out).mono ?_
        rintro e y5 ⟨vb, rfl, hob, hb5⟩
        rw [HLR.out] at hob
        rw [if_pos HLK.out]
        have HXd := hide (HXc.out.below hb5)
        have HLB5 := hide ((hb5.block _ (blk_lt HLB.out)).trans HLB.out)
        have HVB := hide (BSl.own hob (fun x hx => HU0.out.byte x (List.mem_of_mem_take hx)))
        have hTL : (xs.take n).length = n := by rw [List.length_take]; omega
        rw [hTL] at hob
        obtain ⟨ab, cb, hvb, hq1, hq2, hq3⟩ := own_form hob
        subst hvb
        clear hob hb5 hq1 hq2 hq3 hTL HXc HLB hcell2
        have q5 : y5.cell? ⟨w.heap.size, 2, none⟩ = some (.slice (some ⟨b, off, none⟩) nB cB) := blk_cell HXd.out.t rfl
        have u5 : y5.cell? ⟨b, off + i, none⟩ = some (.slice au xs.length cau) := keep_below HXd.out.b _ _ HCU.out
        have HCK : Hid (Calls Tryd.prog 26 #[.agg (lcs l)] y5 fun e w' => e = .returned (.int .i64 0) ∧ Below y5.heap.size y5 w') := by
          have h := check_any y5 l HLD.out
          rw [if_pos HLK.out] at h
          exact h
        have HLN : Hid ((lcs l).size = 4) := rfl
        generalize lcs l = cl at *
        go_wp2_with (first
          | (go_at_call 11; refine (num4_any _ _).mono ?_; rintro e yn ⟨rfl, hyn⟩; subst hyn)
          | (refine wpList_loadLk rfl rfl y2.heap.size cl rfl HLN.out HLB5.out ?_))
        refine HCK.out.mono ?_
        rintro e y6 ⟨rfl, hb6⟩
        have HXe := hide (HXd.out.below hb6)
        have HVB6 := hide (HVB.out.move (keep_below hb6))
        have q6 : y6.cell? ⟨w.heap.size, 2, none⟩ = some (.slice (some ⟨b, off, none⟩) nB cB) := blk_cell HXe.out.t rfl
        have u6 : y6.cell? ⟨b, off + i, none⟩ = some (.slice au xs.length cau) := keep_below HXe.out.b _ _ HCU.out
        have HTK : Hid (BSl y6 (.slice au n cau) (xs.take n)) := (HU0.out.move (keep_below HXe.out.b)).take n hnl
        clear hb6 HXd HVB HLB5 HCK q5 u5
        go_wp2_with (go_at_call 11; refine (num4_any _ _).mono ?_; rintro e yn ⟨rfl, hyn⟩; subst hyn)
        refine (eq_any _ _ _ _ _ HVB6.out HTK.out).mono ?_
        rintro e y7 ⟨rfl, hk7⟩
        have HXf := hide (HXe.out.below (hk7.below (Nat.le_refl _) (fun _ h => h.elim)))
        rw [decide_eq_true rfl]
        clear hk7 HXe
        go_wp2_with fail
        go_roundw
        case rel => exact ⟨i + 1, by omega, by go_num, HXf⟩
        case measure => simp [intOf]; omega
      · have g5 : ((er : Int) == 0) = false := beq_eq_false_iff_ne.2 (by omega)
        obtain ⟨hl0, hn0⟩ := HFB.out her
        subst hl0
        subst hn0
        have HEQ : Hid (∀ w, (Op.equalIn 10000 35 (.agg (lcs Lk.none)) (.agg #[.int .i64 0, .int .u64 0, .int .u64 0, .string ⟨#[]⟩])).run Tryd.prog w = .ok true w) := fun w => eqlk_none w Lk.none (by simp [Lk.none]) rfl
        have HLN : Hid ((lcs Lk.none).size = 4) := rfl
        generalize lcs Lk.none = cl at *
        clear HFB HFK her
        go_wp2_with (first
          | (refine wpList_loadLk rfl rfl y2.heap.size cl rfl HLN.out HLB.out ?_)
          | (refine wpList_nelk rfl rfl cl #[.int .i64 0, .int .u64 0, .int .u64 0, .string ⟨#[]⟩] true rfl rfl (HEQ.out _) ?_))
        go_roundw
        case rel => exact ⟨i + 1, by omega, by go_num, HXc⟩
        case measure => simp [intOf]; omega
    · have g34 : ((i : Int) < (nB : Int) ∧ ¬ (i : Int) < 1000) ∨ ¬ (i : Int) < (nB : Int) := by omega
      clear hil
      rcases g34 with ⟨g3, g4⟩ | g3
      all_goals go_wp2_with fail
      all_goals clear q0
      all_goals (
        go_loopw [9] (fun ii wx => ∃ j : Nat, j ≤ 1000 ∧ ii = .int .i64 (j : Nat) ∧ Hid (Lks w wx #[v0, v1, .slice aB nB cB, .slice aS nS cS, v4])) (fun ii _ => 1000 - (intOf ii).toNat)
        case atStart => exact ⟨0, by omega, rfl, HX⟩
        case round => as_aux_lemma =>
          rename World => wz
          obtain ⟨j, hj, rfl, HY⟩ := hrel
          clear HX
          have q0 : wz.cell? ⟨w.heap.size, 3, none⟩ = some (.slice aS nS cS) := blk_cell HY.out.t rfl
          by_cases hjl : j < nS ∧ j < 1000
          · obtain ⟨hjl, hj60⟩ := hjl
            have g3 : (j : Int) < (nS : Int) := by omega
            have g4 : (j : Int) < 1000 := by omega
            obtain ⟨a', cap', hv, hform⟩ := HS.out.form
            injection hv with e1 e2 e3
            subst e1
            obtain ⟨b, off, rfl, hcells⟩ := hform.resolve_left (by omega)
            obtain ⟨s, hsz, hcs⟩ := hcells j hjl
            have HCS := hide hcs
            have cs : wz.cell? ⟨b, off + j, none⟩ = some (.string s) := keep_below HY.out.b _ _ hcs
            clear hform hcells hcs e2 e3
            go_wp2_with fail
            refine (parsetext_any wz s hsz).mono ?_
            rintro e y2 ⟨rfl, hb2⟩
            have HXb := hide (HY.out.below hb2)
            have HFB := hide (lparsetext_bad (s := sl s))
            have HFN := hide (fun l => fnd_all (s := sl s) (l := l))
            have HFK := hide (fun l => lparsetext_back (s := sl s) (l := l))
            clear hb2 HY cs q0
            generalize lparsetext (sl s) = r at *
            obtain ⟨l, er⟩ := r
            simp only at HFB HFK HFN ⊢
            have HXc := hide (HXb.out.below (below_alloc4 y2 (.cells #[.int .i64 l.v, .int .u64 (l.c : Nat), .int .u64 (l.h : Nat), .string (nstr l.d)] 35)))
            have HLB : Hid ((y2.alloc (.cells #[.int .i64 l.v, .int .u64 (l.c : Nat), .int .u64 (l.h : Nat), .string (nstr l.d)] 35)).heap[y2.heap.size]? = some (.cells (lcs l) 35 (0, 0))) := heap_alloc_new y2 _
            simp only [lkv]
            clear HXb
            go_wp2_with fail
            generalize y2.alloc (.cells #[.int .i64 l.v, .int .u64 (l.c : Nat), .int .u64 (l.h : Nat), .string (nstr l.d)] 35) = y3 at *
            refine (num4_any y3 _).mono ?_
            rintro e y4 ⟨rfl, hy4⟩
            subst hy4
            by_cases her : er = 0
            · subst her
              obtain ⟨hlk, hld, _⟩ := HFK.out l rfl
              have HLK := hide hlk
              have HLD := hide (lok_lkb hlk hld)
              have HFA := hide (HFN.out l rfl)
              clear HFB HFK HFN hlk hld
              go_wp2_with (refine wpList_loadLk rfl rfl y2.heap.size (lcs l) rfl rfl HLB.out ?_)
              refine (show Calls Tryd.prog 9 #[.agg (lcs l)] y4 _ from text4_any y4 l HLD.out).mono ?_
              rintro e y5 ⟨rfl, hb5⟩
              have HXd := hide (HXc.out.below hb5)
              have HLB5 := hide ((hb5.block _ (blk_lt HLB.out)).trans HLB.out)
              have hlt : (lttx l).2 = 0 := by unfold lttx; rw [if_pos HLK.out]
              have heq := eq_str (lttx_byte (l := l)) s
              have HF0 : Hid (fnd l (sl s) 0 = decide ((lttx l).1 = sl s)) := rfl
              rw [hlt]
              have q5 : y5.cell? ⟨w.heap.size, 3, none⟩ = some (.slice (some ⟨b, off, none⟩) nS cS) := blk_cell HXd.out.t rfl
              have u5 : y5.cell? ⟨b, off + j, none⟩ = some (.string s) := keep_below HXd.out.b _ _ HCS.out
              rw [← HF0.out] at heq
              clear hb5 hlt HXc HLB
              generalize (lttx l).1 = tx at *
              go_wp2_with (go_at_call 11; refine (num4_any _ _).mono ?_; rintro e yn ⟨rfl, hyn⟩; subst hyn)
              clear heq q5 u5
              go_loopw [14, 15] (fun ff kk wx => ∃ k : Nat, k ≤ 3 ∧ kk = .int .i64 ((k : Int) + 1) ∧ ff = .bool (fnd l (sl s) k) ∧ Hid (Lks w wx #[v0, v1, .slice aB nB cB, .slice (some ⟨b, off, none⟩) nS cS, v4]) ∧ Hid (wx.heap[y2.heap.size]? = some (.cells (lcs l) 35 (0, 0)))) (fun _ kk _ => 4 - (intOf kk).toNat)
              case atStart => exact ⟨0, by omega, rfl, rfl, HXd, HLB5⟩
              case round => as_aux_lemma =>
                rename World => wv
                obtain ⟨k, hk, rfl, rfl, HV, HLV⟩ := hrel
                clear HXd HLB5
                by_cases hk3 : k < 3
                · have g7 : (k : Int) + 1 < 4 := by omega
                  go_wp2_with (refine wpList_loadLk rfl rfl y2.heap.size (lcs l) rfl rfl HLV.out ?_)
                  have HTI := hide (textin_any wv l ((k + 1 : Nat) : Int) HLD.out)
                  have HFS : Hid (fnd l (sl s) (k + 1) = (fnd l (sl s) k || (decide ((ltin l ((k + 1 : Nat) : Int)).2 = 0) && decide ((ltin l ((k + 1 : Nat) : Int)).1 = sl s)))) := rfl
                  have HES := hide (eq_str (ltin_byte (l := l) (n := ((k + 1 : Nat) : Int))) s)
                  have hkc : ((k + 1 : Nat) : Int) = (k : Int) + 1 := by omega
                  rw [hkc] at HTI HFS HES
                  have hkk : (k : Int) + 1 ≤ 3 := by omega
                  have hk0 : 0 ≤ (k : Int) + 1 := by omega
                  have HKN : Hid (((k + 1 : Nat) : Int) + 1 = (k : Int) + 1 + 1) := by show _ = _; omega
                  clear hkc
                  generalize hk1 : (k : Int) + 1 = k1 at *
                  refine (show Calls Tryd.prog 13 #[.agg (lcs l), .int .i64 k1] wv _ from HTI.out).mono ?_
                  rintro e y6 ⟨rfl, hb6⟩
                  have HV6 := hide (HV.out.below hb6)
                  have HL6 := hide ((hb6.block _ (blk_lt HLV.out)).trans HLV.out)
                  have q6 : y6.cell? ⟨w.heap.size, 3, none⟩ = some (.slice (some ⟨b, off, none⟩) nS cS) := blk_cell HV6.out.t rfl
                  have u6 : y6.cell? ⟨b, off + j, none⟩ = some (.string s) := keep_below HV6.out.b _ _ HCS.out
                  have HK1 := hide hk1
                  clear hb6 HTI hk1 HV HLV
                  generalize ltin l k1 = ti at *
                  obtain ⟨tt, te⟩ := ti
                  simp only at HFS HES ⊢
                  generalize hf1 : fnd l (sl s) (k + 1) = f1 at *
                  have HF1 := hide hf1
                  clear hf1
                  cases hfk : fnd l (sl s) k with
                  | true =>
                    as_aux_lemma =>
                    rw [hfk, Bool.true_or] at HFS
                    clear hfk
                    go_wp2_with fail
                    go_roundw
                    case rel => exact ⟨k + 1, by omega, by rw [HKN.out], by rw [HF1.out, HFS.out], HV6, HL6⟩
                    case measure => have := HK1.out; simp [intOf]; omega
                  | false =>
                    rw [hfk, Bool.false_or] at HFS
                    clear hfk
                    by_cases hte : te = 0
                    · subst hte
                      as_aux_lemma =>
                      rw [decide_eq_true rfl, Bool.true_and] at HFS
                      have hes := HES.out
                      rw [← HFS.out] at hes
                      go_wp2_with (go_at_call 11; refine (num4_any _ _).mono ?_; rintro e yn ⟨rfl, hyn⟩; subst hyn)
                      go_roundw
                      case rel => exact ⟨k + 1, by omega, by rw [HKN.out], by rw [HF1.out], HV6, HL6⟩
                      case measure => have := HK1.out; simp [intOf]; omega
                    · as_aux_lemma =>
                      rw [decide_eq_false hte, Bool.false_and] at HFS
                      have gte : (te == 0) = false := beq_eq_false_iff_ne.2 hte
                      clear hte
                      go_wp2_with (go_at_call 11; refine (num4_any _ _).mono ?_; rintro e yn ⟨rfl, hyn⟩; subst hyn)
                      go_roundw
                      case rel => exact ⟨k + 1, by omega, by rw [HKN.out], by rw [HF1.out, HFS.out], HV6, HL6⟩
                      case measure => have := HK1.out; simp [intOf]; omega
                · have hk3' : k = 3 := by omega
                  subst hk3'
                  rw [HFA.out]
                  have HCK : Hid (Calls Tryd.prog 26 #[.agg (lcs l)] wv fun e w' => e = .returned (.int .i64 0) ∧ Below wv.heap.size wv w') := by
                    have h := check_any wv l HLD.out
                    rw [if_pos HLK.out] at h
                    exact h
                  as_aux_lemma =>
                  go_wp2_with (refine wpList_loadLk rfl rfl y2.heap.size (lcs l) rfl rfl HLV.out ?_)
                  refine HCK.out.mono ?_
                  rintro e y6 ⟨rfl, hb6⟩
                  have HV6 := hide (HV.out.below hb6)
                  clear hb6
                  go_wp2_with (go_at_call 11; refine (num4_any _ _).mono ?_; rintro e yn ⟨rfl, hyn⟩; subst hyn)
                  go_roundw
                  case rel => exact ⟨j + 1, by omega, by go_num, HV6⟩
                  case measure => simp [intOf]; omega
            · have g5 : ((er : Int) == 0) = false := beq_eq_false_iff_ne.2 (by omega)
              have hl0 := HFB.out her
              subst hl0
              have HEQ : Hid (∀ w, (Op.equalIn 10000 35 (.agg (lcs Lk.none)) (.agg #[.int .i64 0, .int .u64 0, .int .u64 0, .string ⟨#[]⟩])).run Tryd.prog w = .ok true w) := fun w => eqlk_none w Lk.none (by simp [Lk.none]) rfl
              have HLN : Hid ((lcs Lk.none).size = 4) := rfl
              generalize lcs Lk.none = cl at *
              clear HFB HFK HFN her
              go_wp2_with (first
                | (refine wpList_loadLk rfl rfl y2.heap.size cl rfl HLN.out HLB.out ?_)
                | (refine wpList_nelk rfl rfl cl #[.int .i64 0, .int .u64 0, .int .u64 0, .string ⟨#[]⟩] true rfl rfl (HEQ.out _) ?_))
              go_roundw
              case rel => exact ⟨j + 1, by omega, by go_num, HXc⟩
              case measure => simp [intOf]; omega
          · by_cases h3 : j < nS
            · have g3 : (j : Int) < (nS : Int) := by omega
              have g4 : ¬ (j : Int) < 1000 := by omega
              go_wp2_with fail
              refine (begun4_any wz HY.out.c).mono ?_
              rintro e w9 ⟨rfl, hb9⟩
              have HB9 := hide (HY.out.below hb9).b
              clear hb9
              go_wp2_with fail
              go_ret
              exact ⟨rfl, HB9.out⟩
            · have g3 : ¬ (j : Int) < (nS : Int) := by omega
              go_wp2_with fail
              refine (begun4_any wz HY.out.c).mono ?_
              rintro e w9 ⟨rfl, hb9⟩
              have HB9 := hide (HY.out.below hb9).b
              clear hb9
              go_wp2_with fail
              go_ret
              exact ⟨rfl, HB9.out⟩)
end
section
open Go.ChangeShapes Go.WideShapes Go.ChangeAt Go.RowKit Go.Deep Go.Joins
set_option maxRecDepth 100000 in
theorem lone_lifted (os : Os) (started : os.Started) (H : Type) (enc : TypeId × Value → H) :
    ReturnsInHanded {} Tryd.checked os 7 .any (fun w args => (Rows.linkOneSpec.pre enc Tryd.prog Tryd.f7 Rows.linkOneRow.domain false w args ∧ laidMet Tryd.prog Rows.linkOneRow.laid w) ∧ sizedMet enc Tryd.prog Tryd.f7 (OpenSpec.ofChange Rows.linkOneSpec) false w args)
      (Rows.linkOneSpec.post enc Tryd.prog Tryd.f7 false true false false) := by
  refine returnsInHanded_of_change_and (C := Tryd.checked) (X := fun w _ => laidMet Tryd.prog Rows.linkOneRow.laid w) (fun _ _ _ hh h => h.of_heap hh) Tryd.own started (by kernel_rfl) Tryd.func7
    (ChangeSpec.witness_at (enc := enc) (C := Tryd.checked) (os := os) (X := fun w _ => laidMet Tryd.prog Rows.linkOneRow.laid w) false (laidWorld os) #[.agg #[.slice none 0 0, .slice none 0 0, .slice none 0 0, .slice none 0 0, .slice none 0 0]] 8 rfl (by kernel_rfl) (by kernel_rfl) (by kernel_rfl) (by kernel_rfl) (by kernel_rfl) (laid_met os _)) ?_
  intro W base args ds gs before hval0 hW _ hsz0 hLd _
  have hval : ∀ (j : Nat) t v, Tryd.f7.params[j]? = some t → args[j]? = some v → Value.okWide Tryd.prog W .any base t v := hval0
  have hsz : (DataW.weightsEach Tryd.prog (Tryd.f7.params.toList ++ Rows.linkOneSpec.plain.varTypes Tryd.prog) (ds ++ gs)).all (· ≤ reachBytes) = true := hsz0
  have hW' := hW
  have hcb : Cb W := cb_of_laid hLd
  obtain ⟨p, q, hA0, hV, rfl, hfz, hnd⟩ := hW
  have hA : DataW.TrodAll enc Tryd.prog W 0 (fun _ => true) true Tryd.f7.params.toList args.toList ds p := hA0
  rw [Tryd.params7] at hA hval hsz
  obtain ⟨v0, d0, rfl, rfl, h0⟩ := trodAll_one hA
  obtain ⟨rfl, rfl⟩ := trodVars_none hV
  have k0 := h0
  have lt0 : ∀ x ∈ p, x.block < W.heap.size := by obtain ⟨m, hm⟩ := k0; exact DataW.trod_lt m _ _ _ hm
  have hwalk : Calls Tryd.prog 7 #[v0] W fun e w' => e = .returned (.bool true) ∧ Below W.heap.size W w' := by
    have hs1 : (d0.weights Tryd.prog 28).all (· ≤ reachBytes) = true := by
      have e : DataW.weightsEach Tryd.prog ([28] ++ Rows.linkOneSpec.plain.varTypes Tryd.prog) ([d0] ++ []) = d0.weights Tryd.prog 28 ++ DataW.weightsEach Tryd.prog (Rows.linkOneSpec.plain.varTypes Tryd.prog) [] := rfl
      rw [e, List.all_append, Bool.and_eq_true] at hsz
      exact hsz.1
    obtain ⟨aL, nL, cL, v1, aB, nB, cB, aS, nS, cS, v4, rfl, hL, hB, hS⟩ := links_arg (hval 0 28 v0 rfl rfl) h0 hs1
    exact one_any W _ v1 v4 aB nB cB aS nS cS hcb hB hS
  clear hA0 hval0
  refine hwalk.mono fun e W' ⟨he, bel⟩ => ?_
  subst he
  exact ⟨_, rfl, _, _, _, [], _, [], hW', trodAll_mk1 (shut_bool Tryd.underlying4 _), trodAll_mk1 (Below.trod Tryd.laidOut (by kernel_rfl) (of_decide_eq_true (by kernel_rfl)) k0 bel lt0), rfl, bel.frame _, fun h => by cases h⟩

theorem lone_row : Rows.LinkOneSaid :=
  OpenClaim.holds_of_wide 7 Tryd.f7 rfl rfl rfl rfl rfl rfl rfl ⟨rfl, rfl, rfl, rfl, rfl⟩ rfl rfl rfl rfl rfl (by kernel_rfl) Tryd.func7 (by kernel_rfl)
    (of_decide_eq_true (by kernel_rfl)) (by unfold Func.isWrapper; first | (rw [if_pos (by decide +kernel)]; kernel_rfl) | (rw [if_neg (by decide +kernel)]; exact ⟨rfl, rfl⟩))
    (fun os started H enc _ => lone_lifted os started H enc)

theorem lone_holds : Rows.LinkOneCardSaid :=
  Claim7.holds_tied_plain_at .later [] [.data] true (true, "acb858d1d2edd2252cede6da87f18234aef21eb2925c22bf7a018d6de849c8c4") false
    lone_row (fun _ h => by cases h) (by kernel_rfl) (fun _ h => by cases h) linkOne_row_tie rfl ⟨rfl, rfl⟩ (by kernel_rfl) rfl
    (fun f fn hf hfn => by
      obtain rfl : f = 7 := Option.some.inj ((show Tryd.prog.funcNamed "trellis/trellislaw4.LinkOne" = some 7 by kernel_rfl).symm.trans hf) |>.symm
      obtain rfl : fn = Tryd.f7 := (Option.some.inj (Tryd.func7.symm.trans hfn)).symm
      exact ⟨by kernel_rfl, fun j t ht => by
        rw [Tryd.params7] at ht
        have h3 : t = 28 := by
          rcases j with _ | j
          · simpa using ht.symm
          · simp at ht
        subst h3
        exact (show Tryd.prog.wantsStandIn 28 = false by kernel_rfl)⟩)
    (by kernel_rfl)
#print axioms lone_holds
end
end Go.Proofs.YtidglddjinfncaaDoor
