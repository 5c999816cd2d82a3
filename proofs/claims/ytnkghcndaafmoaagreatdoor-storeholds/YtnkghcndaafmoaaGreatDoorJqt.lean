import Derived.Test.YtnkghcndaafmoaaGreatDoorJqs
import Derived.Test.YtnkghcndaafmoaaGreatDoorJqa
import Derived.Maps.OwnSet
import Derived.Maps.OwnOps
import Derived.Maps.RangeWalk
import Derived.DeepKeys5
import Derived.Laws.ResultCell
import Derived.Test.YtnkghcndaafmoaaGreatDoorJqo
import Derived.Deep.RegionHeld
import Derived.Test.YtnkghcndaafmoaaGreatDoorJqq
namespace Go.Proofs.YtnkghcndaafmoaaGreatDoor
section
open Go.RowKit Go
structure Lkx (l : Lk) : Prop extends Lkb l where
  v : -9223372036854775808 ≤ l.v ∧ l.v ≤ 9223372036854775807
theorem linkRow : (41 : Nat) < Tryz.prog.types.size := of_decide_eq_true (by kernel_rfl)
theorem linkDeep : Tryz.prog.keyType 41 = true := by kernel_rfl
theorem linkWide : (match Tryz.prog.underlying 41 with | some (.array _ _) | some (.struct _) => true | _ => false) = true := by rw [Tryz.underlying41]
theorem laidOut13 : laidOutB Tryz.prog = true := by kernel_rfl
set_option maxRecDepth 1000000 in
theorem lawK : Maps.Keyed Tryz.prog 41 := Maps.Keyed.of_law (deep_law_laid laidOut13 (m := 3) (by omega) linkRow (by kernel_rfl) linkWide)
theorem cellsL : Tryz.prog.cellsOf 41 = 4 := by kernel_rfl
theorem c3x : Tryz.prog.cellsOf 3 = 1 := by kernel_rfl
theorem cellsU : Tryz.prog.cellsOf 38 = 1 := by kernel_rfl
theorem c9x : Tryz.prog.cellsOf 9 = 1 := by kernel_rfl
def kll (l : Lk) : Lit := .string (keyBytes [.int .i64 l.v, .int .u64 (l.c : Nat), .int .u64 (l.h : Nat), .string (nstr l.d).data.toList])
theorem types_pos : ∃ d, Tryz.prog.types.size = d + 1 := ⟨Tryz.prog.types.size - 1, by have := linkRow; omega⟩
theorem wf_i64 {v : Int} : (Lit.int .i64 v).wf = true ↔ -9223372036854775808 ≤ v ∧ v ≤ 9223372036854775807 := by
  simp [Lit.wf, IntKind.min, IntKind.max, IntKind.signed, IntKind.bits]
theorem wf_u64 {v : Int} : (Lit.int .u64 v).wf = true ↔ 0 ≤ v ∧ v ≤ 18446744073709551615 := by
  simp [Lit.wf, IntKind.min, IntKind.max, IntKind.signed, IntKind.bits]
set_option maxRecDepth 1000000 in
theorem keyL {l : Lk} (h : Lkx l) : keyOf Tryz.prog 41 (lkv l) = some (kll l) := by
  obtain ⟨d, hd⟩ := types_pos
  have hc := h.c
  have hh := h.h
  have hz := h.n
  have w0 : (Lit.int .i64 l.v).wf = true := wf_i64.2 h.v
  have w1 : (Lit.int .u64 (l.c : Nat)).wf = true := wf_u64.2 ⟨by omega, by omega⟩
  have w2 : (Lit.int .u64 (l.h : Nat)).wf = true := wf_u64.2 ⟨by omega, by omega⟩
  have w3 : (nstr l.d).size ≤ maxLen := by rw [h.toLkb.size]; unfold maxLen; omega
  unfold keyOf
  rw [Tryz.underlying41, linkDeep]
  have hf : (lkv l).formed Tryz.prog 41 = true := by simp [lkv, Value.formed, Tryz.underlying41, cellsL]
  rw [hf, hd]
  simp [lkv, Value.cells, Program.keyLits, Tryz.underlying41, cellsL, c3x, cellsU, c9x, Tryz.underlying3, Tryz.underlying38, Tryz.underlying9, w0, w1, w2, w3, kll]
set_option maxRecDepth 1000000 in
theorem kl_i {d : Nat} {v : Value} {x : List Lit} (h : Tryz.prog.keyLits (d + 1) 3 [v] = some x) : ∃ n, v = .int .i64 n ∧ (Lit.int .i64 n).wf = true := by
  unfold Program.keyLits at h
  rw [Tryz.underlying3] at h
  cases v <;> simp at h
  obtain ⟨⟨rfl, hw⟩, _⟩ := h
  exact ⟨_, rfl, hw⟩
set_option maxRecDepth 1000000 in
theorem kl_u {d : Nat} {v : Value} {x : List Lit} (h : Tryz.prog.keyLits (d + 1) 38 [v] = some x) : ∃ n, v = .int .u64 n ∧ (Lit.int .u64 n).wf = true := by
  unfold Program.keyLits at h
  rw [Tryz.underlying38] at h
  cases v <;> simp at h
  obtain ⟨⟨rfl, hw⟩, _⟩ := h
  exact ⟨_, rfl, hw⟩
set_option maxRecDepth 1000000 in
theorem kl_s {d : Nat} {v : Value} {x : List Lit} (h : Tryz.prog.keyLits (d + 1) 9 [v] = some x) : ∃ s, v = .string s ∧ s.size ≤ maxLen := by
  unfold Program.keyLits at h
  rw [Tryz.underlying9] at h
  cases v <;> simp at h
  exact ⟨_, rfl, h.1⟩
set_option maxRecDepth 1000000 in
theorem keyInv {v : Value} {kl : Lit} (h : keyOf Tryz.prog 41 v = some kl) : ∃ x : Lk, v = lkv x ∧ Lkx x := by
  unfold keyOf at h
  rw [Tryz.underlying41] at h
  obtain ⟨d, hd⟩ := types_pos
  rw [hd] at h
  simp only at h
  by_cases hf : (Tryz.prog.keyType 41 && v.formed Tryz.prog 41) = true
  · rw [if_pos hf] at h
    rw [Bool.and_eq_true] at hf
    replace hf := hf.2
    cases v <;> simp [Value.formed, Tryz.underlying41, cellsL] at hf
    rename_i cs
    obtain ⟨l⟩ := cs
    rcases l with _ | ⟨a, _ | ⟨b, _ | ⟨c, _ | ⟨e, _ | ⟨x, l⟩⟩⟩⟩⟩ <;> simp at hf
    rw [Option.map_eq_some_iff] at h
    obtain ⟨ls, h, _⟩ := h
    unfold Program.keyLits at h
    simp only [Tryz.underlying41, Value.cells] at h
    rw [if_pos ⟨by rw [cellsL]; rfl, by simp⟩] at h
    simp only [List.mapM_cons, List.mapM_nil, c3x, cellsU, c9x, Option.map_eq_some_iff, Option.bind_eq_bind, Option.bind_eq_some_iff, Option.pure_def, List.drop_zero, List.take_succ_cons, List.take_zero, List.drop_succ_cons] at h
    obtain ⟨_, ⟨x1, h1, _, ⟨x2, h2, _, ⟨x3, h3, _, ⟨x4, h4, _⟩, _⟩, _⟩, _⟩, _⟩ := h
    obtain ⟨n1, rfl, w1⟩ := kl_i h1
    obtain ⟨n2, rfl, w2⟩ := kl_u h2
    obtain ⟨n3, rfl, w3⟩ := kl_u h3
    obtain ⟨s4, rfl, w4⟩ := kl_s h4
    rw [wf_i64] at w1
    rw [wf_u64] at w2 w3
    refine ⟨⟨n1, n2.toNat, n3.toNat, sl s4⟩, ?_, ⟨⟨?_, ?_, sl_byte s4, ?_⟩, w1⟩⟩
    · simp only [lkv]
      rw [nstr_sl, Int.toNat_of_nonneg w2.1, Int.toNat_of_nonneg w3.1]
    · show n2.toNat < _
      omega
    · show n3.toNat < _
      omega
    · show (sl s4).length ≤ _
      rw [sl_len]
      unfold maxLen at w4
      omega
  · rw [if_neg hf] at h
    cases h
theorem kll_inj {a b : Lk} (ha : Lkx a) (hb : Lkx b) (h : kll a = kll b) : a = b := by
  have h1 := lawK.inj (keyL ha) (h ▸ keyL hb)
  simp only [lkv, Value.agg.injEq, Array.mk.injEq, List.cons.injEq, Value.int.injEq, true_and, Value.string.injEq, and_true] at h1
  obtain ⟨h2, h3, h4, h5⟩ := h1
  exact lk_ext.2 ⟨h2, by omega, by omega, nstr_inj ha.d hb.d (by rw [h5])⟩
theorem kll_ne {a b : Lk} (ha : Lkx a) (hb : Lkx b) (h : a ≠ b) : kll a ≠ kll b := fun e => h (kll_inj ha hb e)
theorem kll_key (l : Lk) : WideAt.IsKeyLit (kll l) := trivial
def bdat (b : List Nat) : DataW Unit := .agg [.lit (.string (nstr b).data.toList)]
def bval (b : List Nat) : Value := .agg #[.string (nstr b)]
def blkElem : Value → Option (DataW Unit × List MemPlace)
  | .agg cs => match cs.toList with
    | [.string s] => if s.size ≤ 140737488351232 then some (.agg [.lit (.string s.data.toList)], []) else none
    | _ => none
  | _ => none
theorem blkElem_mk {b : List Nat} (hb : ∀ x ∈ b, x < 256) (hn : b.length ≤ 140737488351232) : blkElem (bval b) = some (bdat b, []) := by
  unfold blkElem bval bdat
  simp only
  rw [if_pos (by rw [nstr_size hb]; exact hn)]
theorem blkElem_inv {v : Value} {z : DataW Unit × List MemPlace} (h : blkElem v = some z) : ∃ b, v = bval b ∧ (∀ x ∈ b, x < 256) ∧ b.length ≤ 140737488351232 ∧ z = (bdat b, []) := by
  unfold blkElem at h
  split at h
  · rename_i cs
    split at h
    · rename_i s hs
      split at h
      · rename_i hz
        obtain ⟨l⟩ := cs
        simp only at hs
        subst hs
        refine ⟨sl s, by unfold bval; rw [nstr_sl], sl_byte s, by rw [sl_len]; exact hz, ?_⟩
        rw [← Option.some.inj h]
        unfold bdat
        rw [nstr_sl]
      · cases h
    · cases h
  · cases h
theorem bdat_inj {a b : List Nat} (ha : ∀ x ∈ a, x < 256) (hb : ∀ x ∈ b, x < 256) (h : bdat a = bdat b) : a = b := by
  unfold bdat at h
  have h1 := DataW.agg.inj h
  simp only [List.cons.injEq, and_true] at h1
  have h2 := Lit.string.inj (DataW.lit.inj h1)
  exact nstr_inj ha hb (by rw [ByteArray.toList_eq, ByteArray.toList_eq, h2])
theorem zeroB (w : World) : (zeroValue 130).run Tryz.prog w = .ok (bval []) w := by kernel_rfl
structure Bgd (p : Blk) : Prop where
  l : Lkx p.1
  b : ∀ x ∈ p.2, x < 256
  n : p.2.length ≤ 67108864
structure Mlb (w : World) (B : Nat) (L : List Blk) : Prop where
  nd : ndB L
  ok : ∀ p ∈ L, Bgd p
  ex : ∃ D : DataW Unit, w.ownsMap Tryz.prog 41 blkElem B L.length D ∧ Maps.size D = L.length ∧ (∀ l, Lkx l → Maps.has D (kll l) = (atB L l).isSome) ∧ ∀ l b, Lkx l → atB L l = some b → ∀ zd, D.atKey (kll l) zd = bdat b
theorem own_tight {w : World} {B n : Nat} {D : DataW Unit} (h : w.ownsMap Tryz.prog 41 blkElem B n D) : w.ownsMap Tryz.prog 41 blkElem B (Maps.size D) D := by
  obtain ⟨es, clock, h1, h2, h3, h4⟩ := h
  refine ⟨es, clock, h1, h2, ?_, h4⟩
  rw [h4]
  simp [Maps.size, length_sorted]
theorem Mlb.made (w : World) : Mlb (w.alloc (.map #[] 0)) w.heap.size [] := ⟨List.nodup_nil, fun _ h => (by cases h), ⟨.map [], World.ownsMap_made _ _ _ _, rfl, fun _ _ => rfl, fun _ _ _ h => by cases h⟩⟩
theorem Mlb.block {w w' : World} {B : Nat} {L : List Blk} (h : Mlb w B L) (hb : w'.heap[B]? = w.heap[B]?) : Mlb w' B L := by
  obtain ⟨h0, h00, D, ⟨es, clock, h1, h2⟩, h3⟩ := h
  exact ⟨h0, h00, ⟨D, ⟨es, clock, hb.trans h1, h2⟩, h3⟩⟩
theorem Mlb.lt {w : World} {B : Nat} {L : List Blk} (h : Mlb w B L) : B < w.heap.size := by
  obtain ⟨_, _, D, h1, _⟩ := h
  exact h1.lt
theorem Mlb.ne {w : World} {B g : Nat} {L : List Blk} {cs : Array Value} {t : TypeId} {z : Nat × Nat} (h : Mlb w B L) (hg : w.heap[g]? = some (.cells cs t z)) : g ≠ B := by
  obtain ⟨_, _, D, ⟨es, clock, h1, _⟩, _⟩ := h
  intro e
  rw [e, h1] at hg
  cases hg
theorem Mlb.next {w w' : World} {B : Nat} {L : List Blk} (h : Mlb w B L) (hb : Below w.heap.size w w') : Mlb w' B L := h.block (hb.block _ h.lt)
theorem Mlb.kp {w w' : World} {B : Nat} {L : List Blk} {S : Nat → Prop} (h : Mlb w B L) (hk : Kp S w w') (hs : ¬ S B) : Mlb w' B L := h.block (hk.block _ h.lt hs)
theorem Mlb.same {w : World} {B : Nat} {L M : List Blk} (h : Mlb w B L) (hM : ndB M) (hk : ∀ k, atB L k = atB M k) : Mlb w B M := by
  obtain ⟨h0, h00, D, h1, h2, h3, h4⟩ := h
  have hp := same_len h0 hM hk
  exact ⟨hM, fun p hp2 => h00 p (hp.mem_iff.2 hp2), ⟨D, hp.length_eq ▸ h1, hp.length_eq ▸ h2, fun l hl => by rw [← hk]; exact h3 l hl, fun l b hl hb => h4 l b hl (by rw [hk]; exact hb)⟩⟩
theorem Mlb.look {w : World} {B : Nat} {L : List Blk} (h : Mlb w B L) {l : Lk} (hl : Lkx l) : (Instr.lookup 105 (.map (some B)) (lkv l) true).run Tryz.prog w = .ok (.tuple #[bval ((atB L l).getD []), .bool (atB L l).isSome]) w := by
  obtain ⟨_, h00, D, h1, _, h3, h4⟩ := h
  obtain ⟨v, ps, hrun, hv⟩ := h1.look_ok lawK Tryz.underlying105 (zeroB w) (blkElem_mk (b := []) (by simp) (by simp)) (keyL hl)
  obtain ⟨b, rfl, hb, hn, hz⟩ := blkElem_inv hv
  have hat := congrArg Prod.fst hz
  simp only at hat
  rw [hrun, h3 l hl]
  cases hg : atB L l with
  | none =>
    have h5 := h3 l hl
    rw [hg] at h5
    rw [Maps.atKey_of_not_has h5] at hat
    rw [← bdat_inj (by simp) hb hat]
    rfl
  | some c =>
    rw [h4 l c hl hg] at hat
    rw [← bdat_inj (h00 _ (atB_mem hg)).b hb hat]
    rfl
theorem Mlb.len {w : World} {B : Nat} {L : List Blk} (h : Mlb w B L) (ty : TypeId) : (Builtin.len_ #[105] ty #[.map (some B)]).run Tryz.prog w = .ok (.int .i64 (L.length : Nat)) w := by
  obtain ⟨_, _, D, h1, h2, _⟩ := h
  rw [h1.len Tryz.underlying105 ty, h2]
theorem Mlb.put {w : World} {B : Nat} {L : List Blk} (h : Mlb w B L) {l : Lk} {b : List Nat} (hb : Bgd (l, b)) (hn : L.length < 140737488351232) :
    ∃ w', (Instr.mapUpdate 105 (.map (some B)) (lkv l) (bval b)).run Tryz.prog w = .ok () w' ∧ Mlb w' B (putB L l b) ∧ Kp (fun q => q = B) w w' ∧ w'.heap.size = w.heap.size := by
  obtain ⟨h0, h00, D, h1, h2, h3, h4⟩ := h
  have hl : Lkx l := hb.l
  obtain ⟨w', hrun, h5, h6⟩ := h1.store lawK Tryz.underlying105 (by unfold maxLen; omega) (keyL hl) (blkElem_mk hb.b (Nat.le_trans hb.n (by decide)))
  have h7 := h6.grown
  have hsz : Maps.size (D.put (kll l) (bdat b)) = (putB L l b).length := by
    rw [Maps.size_put (h1.tidy lawK), h3 l hl, h2]
    have := len_put h0 l b
    cases hh : (atB L l).isSome
    · rw [hh] at this
      simp only [Bool.false_eq_true, if_false] at this ⊢
      omega
    · rw [hh] at this
      simp only [if_true] at this ⊢
      omega
  refine ⟨w', hrun, ⟨ndB_put h0 l b, fun p hp => ?_, ⟨D.put (kll l) (bdat b), ?_, hsz, fun k hk => ?_, fun k c hk hc zd => ?_⟩⟩, ⟨h7.os, h7.tape, h7.output, h7.size, fun k hk hne => h7.block k hk (fun e => hne (by injection e))⟩, ?_⟩
  · rcases mem_put hp with rfl | hp
    · exact hb
    · exact h00 p hp
  · rw [← hsz]
    exact own_tight h5
  · rw [atB_put]
    by_cases hkl : k = l
    · subst hkl
      rw [if_pos rfl, Maps.has_put_same h1.isMap (kll_key k)]
      rfl
    · rw [if_neg hkl, Maps.has_put_other (kll_ne hk hl hkl)]
      exact h3 k hk
  · rw [atB_put] at hc
    by_cases hkl : k = l
    · subst hkl
      rw [if_pos rfl] at hc
      rw [← Option.some.inj hc]
      exact Maps.atKey_put_same h1.isMap (kll_key k) _ _
    · rw [if_neg hkl] at hc
      rw [Maps.atKey_put_other (kll_ne hk hl hkl)]
      exact h4 k c hk hc zd
  · obtain ⟨es, clock, es', clock', _, rfl⟩ := h6
    simp [ChangeMaps.setBlock]
end
section
open Go.RowKit Go
set_option maxRecDepth 1000000 in
set_option maxHeartbeats 1000000 in
theorem check_any (w : World) (l : Lk) (hl : Lkb l) : Calls Tryz.prog 38 #[lkv l] w fun e w' => e = .returned (.int .i64 (if lok l then 0 else 40)) ∧ Below w.heap.size w w' := by
  generalize hR : (if lok l then (0 : Int) else 40) = R
  have HR := hide hR
  clear hR
  have HL := hide hl
  have HLO : Hid (∀ x ∈ (⟨0, 112, 18, l.d⟩ : Lk).d, x < 256) := hl.d
  have HOL : Hid (lcs ⟨0, 112, 18, l.d⟩ = #[.int .i64 0, .int .u64 112, .int .u64 18, .string (nstr l.d)]) := rfl
  have HT : Hid ((w.alloc (.cells #[.int .i64 l.v, .int .u64 (l.c : Nat), .int .u64 (l.h : Nat), .string (nstr l.d)] 41)).heap[w.heap.size]? = some (.cells (lcs l) 41 (0, 0))) := heap_alloc_new w _
  have HBQ := hide (below_alloc4 w (.cells #[.int .i64 l.v, .int .u64 (l.c : Nat), .int .u64 (l.h : Nat), .string (nstr l.d)] 41))
  simp only [lkv]
  go_enter Tryz.func38, Tryz.ntmps38
  go_wp2_with fail
  generalize w.alloc (.cells #[.int .i64 l.v, .int .u64 (l.c : Nat), .int .u64 (l.h : Nat), .string (nstr l.d)] 41) = w0 at *
  go_cut [3] (fun c wx => c = .bool (decide (l = ⟨0, 112, 18, l.d⟩) && decide (okd l.h l.d)) ∧ Hid (Below w0.heap.size w0 wx))
  case first => as_aux_lemma =>
    have q3 : ∀ t : Ext w0, t.w'.cell? ⟨w.heap.size, 3, none⟩ = some (.string (nstr l.d)) := fun t => Ext.cell (blk_cell HT.out rfl) t
    have HQ : Hid (∀ wx, (∃ t : Ext w0, wx = t.w') → wx.heap[w.heap.size]? = some (.cells (lcs l) 41 (0, 0))) := by
      rintro _ ⟨t, rfl⟩
      exact (t.h.block _ (blk_lt HT.out)).trans HT.out
    have HCO : Hid (∀ t : Ext w0, Calls Tryz.prog 77 #[.string (nstr l.d)] t.w' fun e w'' => e = .returned (.agg (lcs ⟨0, 112, 18, l.d⟩)) ∧ ∃ t' : Ext w0, w'' = t'.w') := fun t => Calls.ext_below (old_any t.w' (nstr l.d))
    have HCF : Hid (∀ t : Ext w0, Calls Tryz.prog 78 #[.agg (lcs l)] t.w' fun e w'' => e = .returned (.bool (decide (okd l.h l.d))) ∧ ∃ t' : Ext w0, w'' = t'.w') := fun t => Calls.ext_below (fits4_any t.w' l HL.out)
    have HEQ : Hid (∀ wx, (∃ t : Ext w0, wx = t.w') → (Op.equalIn 10000 41 (.agg (lcs l)) (.agg (lcs ⟨0, 112, 18, l.d⟩))).run Tryz.prog wx = .ok (decide (l = ⟨0, 112, 18, l.d⟩)) wx) := fun wx _ => eqlk wx HL.out.d HLO.out
    generalize hbb : decide (l = ⟨0, 112, 18, l.d⟩) = bb at *
    generalize lcs ⟨0, 112, 18, l.d⟩ = ol at *
    have HCN : Hid ((lcs l).size = 4) := rfl
    generalize lcs l = cl at *
    clear hbb
    cases bb
    · refine region_ext (by kernel_rfl) (by kernel_rfl) ?_
      repeat (
        refine wpQuiet_step (fun K hK => ?_)
        first
          | (refine qstep_link rfl rfl w.heap.size cl rfl HCN.out HQ.out (hK _ ?_); clear hK K)
          | (refine qstep_eqlk rfl rfl cl ol false rfl rfl HEQ.out (hK _ ?_); clear hK K)
          | (go_simp
             first
               | (refine hK _ ?_; clear hK K)
               | (apply Exists.intro
                  refine ⟨fun _ => ?_, hK _ ?_⟩
                  (first
                    | (go_at_call 77; exact HCO.out _)
                    | (go_at_call 78; exact HCF.out _))
                  clear hK K)))
      refine wpQuiet_nil ?_
      rintro _ ⟨tq, rfl⟩
      go_wp2_with fail
      go_meet
      case rel => exact ⟨rfl, tq.h⟩
    · refine region_ext (by kernel_rfl) (by kernel_rfl) ?_
      repeat (
        refine wpQuiet_step (fun K hK => ?_)
        first
          | (refine qstep_link rfl rfl w.heap.size cl rfl HCN.out HQ.out (hK _ ?_); clear hK K)
          | (refine qstep_eqlk rfl rfl cl ol true rfl rfl HEQ.out (hK _ ?_); clear hK K)
          | (go_simp
             first
               | (refine hK _ ?_; clear hK K)
               | (apply Exists.intro
                  refine ⟨fun _ => ?_, hK _ ?_⟩
                  (first
                    | (go_at_call 77; exact HCO.out _)
                    | (go_at_call 78; exact HCF.out _))
                  clear hK K)))
      refine wpQuiet_nil ?_
      rintro _ ⟨tq, rfl⟩
      go_wp2_with fail
      go_meet
      case rel => exact ⟨rfl, tq.h⟩
  case rest => as_aux_lemma =>
    obtain ⟨rfl, hb1⟩ := hcut
    have HT1 : Hid (wc.heap[w.heap.size]? = some (.cells (lcs l) 41 (0, 0))) := (hb1.out.block _ (blk_lt HT.out)).trans HT.out
    have HB1 : Hid (Below w.heap.size w wc) := HBQ.out.trans (hb1.out.mono HBQ.out.size)
    have HK : Hid (lok l ↔ (l = ⟨0, 112, 18, l.d⟩ ∧ okd l.h l.d) ∨ (l.v = 1 ∧ l.c < 9223372036854775808 ∧ okd l.h l.d)) := by
      show _ ↔ _
      unfold lok
      rw [lk_ext]
      constructor
      · rintro (⟨h1, h2, h3, h4⟩ | h)
        · exact .inl ⟨⟨h1, h2, h3, rfl⟩, .inl ⟨h3, h4⟩⟩
        · exact .inr h
      · rintro (⟨⟨h1, h2, h3, _⟩, h | h⟩ | h)
        · exact .inl ⟨h1, h2, h3, h.2⟩
        · simp only at h1 h2 h3
          omega
        · exact .inr h
    clear hb1 HT HBQ HOL HLO
    by_cases hc1 : l = ⟨0, 112, 18, l.d⟩ ∧ okd l.h l.d
    · as_aux_lemma =>
      have e1 : (decide (l = ⟨0, 112, 18, l.d⟩) && decide (okd l.h l.d)) = true := by rw [decide_eq_true hc1.1, decide_eq_true hc1.2]; rfl
      have HZ : Hid (R = 0) := by show _ = _; rw [← HR.out, if_pos (HK.out.2 (.inl hc1))]
      rw [e1]
      clear e1 hc1 HR HK
      go_wp2_with fail
      go_ret
      exact ⟨by rw [HZ.out]; rfl, HB1.out⟩
    · have e1 : (decide (l = ⟨0, 112, 18, l.d⟩) && decide (okd l.h l.d)) = false := by
        rw [Bool.and_eq_false_iff, decide_eq_false_iff_not, decide_eq_false_iff_not]
        exact Decidable.not_and_iff_or_not.1 hc1
      rw [e1]
      have HE : Hid (lok l ↔ (l.v = 1 ∧ l.c < 9223372036854775808 ∧ okd l.h l.d)) := HK.out.trans ⟨fun h => h.resolve_left hc1, .inr⟩
      have q0 : wc.cell? ⟨w.heap.size, 0, none⟩ = some (.int .i64 l.v) := blk_cell HT1.out rfl
      have q1 : wc.cell? ⟨w.heap.size, 1, none⟩ = some (.int .u64 (l.c : Nat)) := blk_cell HT1.out rfl
      have q2 : wc.cell? ⟨w.heap.size, 2, none⟩ = some (.int .u64 (l.h : Nat)) := blk_cell HT1.out rfl
      have q3 : wc.cell? ⟨w.heap.size, 3, none⟩ = some (.string (nstr l.d)) := blk_cell HT1.out rfl
      have HF := hide (fits4_any wc l HL.out)
      simp only [lkv] at HF
      have HCL := hide HL.out.c
      clear e1 hc1 HK HL hl HT1
      generalize nstr l.d = S at *
      obtain ⟨v, c, h, d⟩ := l
      simp only at *
      by_cases hv : v = 1
      · subst hv
        generalize hn : (c : Int) = n at *
        have HN := hide hn
        clear hn
        by_cases hc63 : n < 9223372036854775808
        · as_aux_lemma =>
          have HZ : Hid (R = if okd h d then 0 else 40) := by
            show _ = _
            rw [← HR.out]
            have := HN.out
            by_cases hk : okd h d
            · rw [if_pos hk, if_pos (HE.out.2 ⟨rfl, by omega, hk⟩)]
            · rw [if_neg hk, if_neg (fun e => hk (HE.out.1 e).2.2)]
          clear HE HR HN
          go_wp2_with fail
          refine HF.out.mono ?_
          rintro e w2 ⟨rfl, hb2⟩
          have HB2 : Hid (Below w.heap.size w w2) := HB1.out.trans (hb2.mono HB1.out.size)
          clear hb2 HF
          by_cases hk : okd h d
          · rw [decide_eq_true hk]
            rw [if_pos hk] at HZ
            go_wp2_with fail
            go_ret
            exact ⟨by rw [HZ.out]; rfl, HB2.out⟩
          · rw [decide_eq_false hk]
            rw [if_neg hk] at HZ
            go_wp2_with fail
            go_ret
            exact ⟨by rw [HZ.out]; rfl, HB2.out⟩
        · as_aux_lemma =>
          have g2' : (9223372036854775808 : Int) ≤ n := by omega
          have HZ : Hid (R = 40) := by show _ = _; rw [← HR.out, if_neg (fun e => hc63 (by have := (HE.out.1 e).2.1; have := HN.out; omega))]
          clear HE HR HN hc63
          go_wp2_with fail
          go_ret
          exact ⟨by rw [HZ.out]; rfl, HB1.out⟩
      · as_aux_lemma =>
        have g1 : (v == 1) = false := beq_eq_false_iff_ne.2 hv
        have HZ : Hid (R = 40) := by show _ = _; rw [← HR.out, if_neg (fun e => hv (HE.out.1 e).1)]
        clear HE HR hv
        go_wp2_with fail
        go_ret
        exact ⟨by rw [HZ.out]; rfl, HB1.out⟩
end
section
open Go.RowKit Go
theorem end_c2 {fn : Func} {p q : Tmp} {T : TypeId} {fs : Array Field} {wx : World} {R : Nat} {cs : Array Value} {x : Value} {tmps : Array Value} (hf : fn.results = #[.cell p T, .tmp q]) (hu : Tryz.prog.underlying T = some (.struct fs)) {n : Nat} (hi : (Tryz.prog.info? T).map (·.size) = some n) (hn : cs.size = n)
    (hr : wx.heap[R]? = some (.cells cs T (0, 0))) (hp : tmps.getD p undef = .pointer (some ⟨R, 0, none⟩)) (hx : tmps.getD q undef = x) : (results fn tmps).run Tryz.prog wx = .ok (.tuple #[.agg cs, x]) wx := by
  refine (results_cell_tmp hf _ _ _).trans ?_
  rw [hp, hx]
  have h1 := run_loadVar_row (P := Tryz.prog) wx R T T cs (0, 0) _ hr hu rfl (by rw [hn]; exact hi)
  simp [asAddr, h1, Result.andThen]
theorem wpList_storeLk {ops : Array Oper} {rest : List Oper} {o : Oper} {a : Act} {Q : Exit → Act → World → Prop} {w : World} {p x : Operand} (hgd : o.guard = none) (ho : o.op = .store 41 p x) (g : Nat) (old : Array Value) (l : Lk)
    (hp : a.eval p = .pointer (some ⟨g, 0, none⟩)) (hx : a.eval x = .agg (lcs l)) (hn : old.size = 4) (hg : w.heap[g]? = some (.cells old 41 (0, 0))) (h : wpList Tryz.prog ops Q rest (a.put o.dst undef) (w.setRow g (lcs l))) : wpList Tryz.prog ops Q (o :: rest) a w :=
  wpList_storeRow hgd ho g old (lcs l) 41 hp hx hg info61 (by rw [hn]; rfl) (by kernel_rfl) h
end
section
open Go.RowKit Go
section
variable {P : Program} {Q : Exit → Act → World → Prop} {S : World → Prop} {l : List Oper} {fuel : Nat} {listed : Array Bool} {a : Act} {w : World}
theorem heldStart {id : Nat} (hm : P.follows .mixedOrders = true) (h : wpAnyH P .any l.toArray Q S l.length (Array.replicate l.length false) a w.drew) : (Code.region id l.toArray true).wp P Q a w :=
  wp_region_held (S := S) hm (by simpa using h)
theorem heldTake (i : Nat) {oi : Oper} (v : Value) (hi : l[i]? = some oi) (hs : Region.noSelect l.toArray = true) (hf : Region.free .any l.toArray listed i = true) (hr : (Region.ready .any l.toArray listed).contains i = true)
    (hQ : ∀ c a w, Q (.panic c) (a.put oi.dst v) w → Q (.panic c) a w) (hw : Region.wanted oi (yielded l.toArray a.tmps) = true) (hS : S w) (hy : ∀ w, S w → (execOp a.eval oi).run P w = .ok (.value v) w)
    (h : wpAnyH P .any l.toArray Q S fuel (listed.setIfInBounds i true) (a.put oi.dst v) w) : wpAnyH P .any l.toArray Q S (fuel + 1) listed a w :=
  wpAnyH_take (by simpa using hi) hs hf hr hQ (.inl ⟨hw, hy⟩) hS h
theorem heldStep (i : Nat) {oi : Oper} (hi : l[i]? = some oi) (hr : Region.ready .any l.toArray listed = [i])
    (h : ∀ K : Act → World → Prop, Hid (∀ a w, S w → (S w → wpAnyH P .any l.toArray Q S fuel (listed.setIfInBounds i true) a w) → K a w) → if Region.wanted oi (yielded l.toArray a.tmps) = true then Oper.wp P oi a w K Q else K (a.put oi.dst undef) w) : wpAnyH P .any l.toArray Q S (fuel + 1) listed a w :=
  wpAnyH_ready hr (by simp) (AllReadyH.cons (by simpa using hi) (fun K hK => h K hK) AllReadyH.nil)
theorem heldDone (hr : Region.ready .any l.toArray listed = []) (h : Q .normal a w) : wpAnyH P .any l.toArray Q S fuel listed a w := wpAnyH_done hr h fuel
end
end
section
open Go.RowKit Go
def stc (r : Nat) (k : Int) (B : Nat) (z : Int) : Array Value := #[.int .i64 (r : Nat), .int .i32 k, .int .u32 0, .map (some B), .int .i64 z]
structure Sto (w : World) (g B r : Nat) (L : List Blk) : Prop where
  c : w.heap[g]? = some (.cells (stc r 0 B (szB L)) 118 (0, 0))
  m : Mlb w B L
  h : 1 ≤ r ∧ r ≤ 65536
  n : L.length ≤ r
set_option maxRecDepth 1000000 in
theorem new13_any (w : World) (r : Nat) (h : 1 ≤ r ∧ r ≤ 65536) : Calls Tryz.prog 7 #[.int .i64 (r : Nat)] w fun e w' => e = .returned (.tuple #[.pointer (some ⟨w.heap.size + 1, 0, none⟩), .int .i64 0]) ∧ Hid (Sto w' (w.heap.size + 1) w.heap.size r [] ∧ Below w.heap.size w w') := by
  have HS := hide h
  have g1 : ¬ ((r : Int) < 1) := by omega
  have g2 : ¬ ((65536 : Int) < r) := by omega
  have hmm := @run_makeMap Tryz.prog
  clear h
  go_enter Tryz.func7, Tryz.ntmps7
  go_wp2_with fail
  have hsz : (w.alloc (.map #[] 0)).heap.size = w.heap.size + 1 := by simp
  have hA := heap_alloc_new (w.alloc (.map #[] 0)) (.cells (stc r 0 w.heap.size (szB [])) 118)
  rw [hsz] at hA
  have hb := (below_alloc4 w (.map #[] 0)).trans ((below_alloc4 (w.alloc (.map #[] 0)) (.cells (stc r 0 w.heap.size (szB [])) 118)).mono (by rw [hsz]; omega))
  have hM := (Mlb.made w).next (below_alloc4 (w.alloc (.map #[] 0)) (.cells (stc r 0 w.heap.size (szB [])) 118))
  go_ret2
  exact ⟨rfl, ⟨hA, hM, HS.out, Nat.zero_le _⟩, hb⟩
set_option maxRecDepth 1000000 in
set_option maxHeartbeats 1000000 in
theorem holds13_any (w : World) (l : Lk) (hl : Lkb l) (vb : Value) (b : List Nat) (hcb : Cb w) (hb : BSl w vb b) (hbl : b.length ≤ 140737488351232) : Calls Tryz.prog 37 #[lkv l, vb] w fun e w' => e = .returned (.bool (dholds l.h l.d b)) ∧ Below w.heap.size w w' := by
  have HB := hide hb
  have HBL := hide hbl
  have HL := hide hl
  have HCB := hide hcb
  obtain ⟨⟨a, cap, rfl, hn, hc⟩, hmax, hby⟩ := hb
  have HT : Hid ((w.alloc (.cells #[.int .i64 l.v, .int .u64 (l.c : Nat), .int .u64 (l.h : Nat), .string (nstr l.d)] 41)).heap[w.heap.size]? = some (.cells (lcs l) 41 (0, 0))) := heap_alloc_new w _
  have HB0 := hide (below_alloc4 w (.cells #[.int .i64 l.v, .int .u64 (l.c : Nat), .int .u64 (l.h : Nat), .string (nstr l.d)] 41))
  clear hn hc hby hbl hcb hl
  simp only [lkv]
  go_enter Tryz.func37, Tryz.ntmps37
  go_upto_region 1 with fail
  generalize w.alloc (.cells #[.int .i64 l.v, .int .u64 (l.c : Nat), .int .u64 (l.h : Nat), .string (nstr l.d)] 41) = w1 at *
  have c2 : w1.cell? ⟨w.heap.size, 2, none⟩ = some (.int .u64 (l.h : Nat)) := blk_cell HT.out rfl
  have c3 : w1.cell? ⟨w.heap.size, 3, none⟩ = some (.string (nstr l.d)) := blk_cell HT.out rfl
  have cv := conv_sb w1 (nstr l.d)
  go_wp2_with fail
  clear cv c2 c3
  have HS1 : Hid (BSl (Lib.bytesWorld w1 5 (nstr l.d)) (.slice (some ⟨w1.heap.size, 0, none⟩) (nstr l.d).size (grownCap w1 (nstr l.d).size 0 5)) l.d) := by
    have h := conv_sb_bsl w1 (nstr l.d) (by rw [HL.out.size]; have := HL.out.n; omega)
    rw [sl_nstr HL.out.d] at h
    exact h
  have HB2 : Hid (Below w.heap.size w (Lib.bytesWorld w1 5 (nstr l.d))) := HB0.out.trans ((conv_sb_below w1 _).mono HB0.out.size)
  generalize grownCap w1 (nstr l.d).size 0 5 = G at *
  generalize w1.heap.size = gg at *
  generalize Lib.bytesWorld w1 5 (nstr l.d) = w2 at *
  refine (holds3_any w2 l.h _ _ l.d b (HCB.out.below HB2.out) HL.out.h HS1.out (HB.out.move (keep_below HB2.out)) HBL.out).mono ?_
  rintro e w3 ⟨rfl, hb3⟩
  have HB3 : Hid (Below w.heap.size w w3) := HB2.out.trans (hb3.mono HB2.out.size)
  clear hb3
  go_wp2_with fail
  go_ret
  exact ⟨rfl, HB3.out⟩
set_option maxRecDepth 1000000 in
theorem fits13_any (w : World) (l : Lk) (hl : Lkb l) (vb : Value) (b : List Nat) (hb : BSl w vb b) : Calls Tryz.prog 42 #[lkv l, vb] w fun e w' => e = .returned (.int .i64 (if lok l ∧ l.h = 18 then if 67108864 < b.length then 133 else 0 else 132)) ∧ Below w.heap.size w w' := by
  generalize hR : (if lok l ∧ l.h = 18 then if 67108864 < b.length then (133 : Int) else 0 else 132) = R
  have HR := hide hR
  have HL := hide hl
  obtain ⟨⟨a, cap, rfl, hn, hc⟩, hmax, hby⟩ := hb
  have HT : Hid ((w.alloc (.cells #[.int .i64 l.v, .int .u64 (l.c : Nat), .int .u64 (l.h : Nat), .string (nstr l.d)] 41)).heap[w.heap.size]? = some (.cells (lcs l) 41 (0, 0))) := heap_alloc_new w _
  have HB0 := hide (below_alloc4 w (.cells #[.int .i64 l.v, .int .u64 (l.c : Nat), .int .u64 (l.h : Nat), .string (nstr l.d)] 41))
  clear hn hc hby hR hl
  simp only [lkv]
  go_enter Tryz.func42, Tryz.ntmps42
  go_wp2_with fail
  generalize w.alloc (.cells #[.int .i64 l.v, .int .u64 (l.c : Nat), .int .u64 (l.h : Nat), .string (nstr l.d)] 41) = w0 at *
  refine (check_any w0 l HL.out).mono ?_
  rintro e w1 ⟨rfl, hb1⟩
  have q0 : w1.heap[w.heap.size]? = some (.cells (lcs l) 41 (0, 0)) := (hb1.block _ (blk_lt HT.out)).trans HT.out
  have HB1 : Hid (Below w.heap.size w w1) := HB0.out.trans (hb1.mono HB0.out.size)
  have c2 : w1.cell? ⟨w.heap.size, 2, none⟩ = some (.int .u64 (l.h : Nat)) := blk_cell q0 rfl
  clear hb1 q0
  by_cases hl : lok l
  · rw [if_pos hl]
    by_cases hh : l.h = 18
    · have HZ : Hid (R = if 67108864 < b.length then 133 else 0) := by show _ = _; rw [← HR.out, if_pos ⟨hl, hh⟩]
      rw [hh] at c2
      clear hl hh HR HT HL
      by_cases hb : 67108864 < b.length
      · have g3 : (67108864 : Int) < b.length := by omega
        have HQ : Hid (R = 133) := by show _ = _; rw [HZ.out, if_pos hb]
        clear hb HZ
        go_wp2_with fail
        go_ret
        exact ⟨by rw [HQ.out]; rfl, HB1.out⟩
      · have g3 : ¬ (67108864 : Int) < b.length := by omega
        have HQ : Hid (R = 0) := by show _ = _; rw [HZ.out, if_neg hb]
        clear hb HZ
        go_wp2_with fail
        go_ret
        exact ⟨by rw [HQ.out]; rfl, HB1.out⟩
    · have HZ : Hid (R = 132) := by show _ = _; rw [← HR.out, if_neg (fun e => hh e.2)]
      have g4 : (((l.h : Nat) : Int) != 18) = true := by rw [bne_iff_ne]; omega
      clear hl hh HR HT HL
      go_wp2_with fail
      go_ret
      exact ⟨by rw [HZ.out]; rfl, HB1.out⟩
  · rw [if_neg hl]
    have HZ : Hid (R = 132) := by show _ = _; rw [← HR.out, if_neg (fun e => hl e.1)]
    clear hl HR HT HL
    go_wp2_with fail
    go_ret
    exact ⟨by rw [HZ.out]; rfl, HB1.out⟩
end
end Go.Proofs.YtnkghcndaafmoaaGreatDoor
