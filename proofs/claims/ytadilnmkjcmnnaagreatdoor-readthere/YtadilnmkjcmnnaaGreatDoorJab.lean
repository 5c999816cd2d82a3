import Derived.Test.YtadilnmkjcmnnaaGreatDoorJaa
import Derived.Test.YtadilnmkjcmnnaaGreatDoorJq
import Derived.Test.YtadilnmkjcmnnaaGreatDoorJk
import Derived.Test.YtadilnmkjcmnnaaGreatDoorJd
import Derived.Great.BuildSlice
import Derived.Great.FillDense
import Derived.Maps.AppendAt
import Derived.Test.YtadilnmkjcmnnaaGreatDoorJz
import Derived.Test.YtadilnmkjcmnnaaGreatDoorJm
import Derived.Test.YtadilnmkjcmnnaaGreatDoorJj
import Derived.Test.YtadilnmkjcmnnaaGreatDoorJo
import Derived.BigQuiet
namespace Go.Proofs.YtadilnmkjcmnnaaGreatDoor
section
open Go.RowKit Go

end
section
open Go.RowKit Go

end
section
open Go.RowKit Go

end
section
open Go.RowKit Go

end
section
open Go.RowKit Go

end
section
open Go.RowKit Go
/-- A link somewhere in a block. -/
theorem load_lk {w : World} (g o : Nat) (l : Lk) (hc : ∀ j u, (lcs l)[j]? = some u → w.cell? ⟨g, o + j, none⟩ = some u) : (Instr.loadAt 59 (.pointer (some ⟨g, o, none⟩))).run Tryz.prog w = .ok (.agg (lcs l)) w := by
  have hl := run_loadCells_list (P := Tryz.prog) (w := w) ⟨g, o, none⟩ (lcs l).toList (fun j v hv => by rw [addr_add]; exact hc j v (by simpa using hv))
  have hi := info61
  simp only [Instr.loadAt, Instr.sureAddr, Sem.run_bind, Sem.run_pure, Result.andThen]
  cases hq : Tryz.prog.info? 59 with
  | none => simp [hq] at hi
  | some i =>
    have hs : i.size = 4 := by simpa [hq] using hi
    have hn : (lcs l).toList.length = 4 := rfl
    rw [hn] at hl
    have ha : (isAgg 59).run Tryz.prog w = .ok true w := by
      unfold isAgg
      rw [Sem.run_bind, run_underlying Tryz.underlying59 w]
      simp
    simp [loadVar, ha, sizeOf, typeInfo, hq, hs, hl]
theorem wpList_lkAt {ops : Array Oper} {rest : List Oper} {o : Oper} {a : Act} {Q : Exit → Act → World → Prop} {w : World} {p : Operand} (hgd : Region.wanted o (yielded ops a.tmps) = true) (ho : o.op = .load 59 p) (g off : Nat) (l : Lk)
    (hp : a.eval p = .pointer (some ⟨g, off, none⟩)) (hc : ∀ j u, (lcs l)[j]? = some u → w.cell? ⟨g, off + j, none⟩ = some u)
    (h : wpList Tryz.prog ops Q rest (a.put o.dst (.agg (lcs l))) w) : wpList Tryz.prog ops Q (o :: rest) a w := by
  refine wpList_wanted hgd fun K hK => ?_
  unfold Oper.wp execOp
  simp only [ho, Sem.run_bind, hp, load_lk g off l hc, Result.andThen_ok]
  exact hK _ _ h
end
section
open Go.ChangeShapes Go.WideShapes Go.ChangeAt Go.RowKit Go.Deep Go.Joins Go
/-- A slice of uint64. -/
structure U64In (w : World) (v : Value) (hs : List Nat) : Prop where
  form : ∃ a c, v = .slice a hs.length c ∧ (hs = [] ∨ ∃ b off, a = some ⟨b, off, none⟩ ∧ ∀ j, j < hs.length → w.cell? ⟨b, off + j, none⟩ = some (.int .u64 ((hs.getD j 0 : Nat) : Int)))
  lt : ∀ x ∈ hs, x < 18446744073709551616
  max : hs.length ≤ 9223372036854775807
theorem U64In.move {w w' : World} {v : Value} {hs : List Nat} (h : U64In w v hs) (hm : ∀ p u, w.cell? p = some u → w'.cell? p = some u) : U64In w' v hs := by
  obtain ⟨⟨a, c, hv, hc⟩, h1, h2⟩ := h
  refine ⟨⟨a, c, hv, ?_⟩, h1, h2⟩
  rcases hc with hc | ⟨b, off, ha, hc⟩
  · exact .inl hc
  · exact .inr ⟨b, off, ha, fun j hj => hm _ _ (hc j hj)⟩
/-- The cells of links in a row. -/
def fcl (rs : List Lk) : List Value := rs.flatMap fun l => (lcs l).toList
end
section
open Go.ChangeShapes Go.WideShapes Go.ChangeAt Go.RowKit Go.Deep Go.Joins Go
/-- A slice of int. -/
structure IntsIn (w : World) (v : Value) (len : Nat) : Prop where
  form : ∃ a c, v = .slice a len c ∧ (len = 0 ∨ ∃ b off, a = some ⟨b, off, none⟩ ∧ ∀ j, j < len → ∃ z : Int, w.cell? ⟨b, off + j, none⟩ = some (.int .i64 z))
  max : len ≤ 9223372036854775807
theorem IntsIn.move {w w' : World} {v : Value} {len : Nat} (h : IntsIn w v len) (hm : ∀ p u, w.cell? p = some u → w'.cell? p = some u) : IntsIn w' v len := by
  obtain ⟨⟨a, c, hv, hc⟩, h1⟩ := h
  refine ⟨⟨a, c, hv, ?_⟩, h1⟩
  rcases hc with hc | ⟨b, off, ha, hc⟩
  · exact .inl hc
  · exact .inr ⟨b, off, ha, fun j hj => (hc j hj).imp fun z hz => hm _ _ hz⟩
theorem ints_open {H : Type} {enc : TypeId × Value → H} {W : World} {base fuel : Nat} {held : Bool} {v : Value} {y : DataW H × List MemPlace} (h : DataW.trod enc Tryz.prog W base (fun _ => true) held fuel 23 [v] = some y) : ∃ len, IntsIn W v len := by
  rcases open_ints Tryz.underlying23 Tryz.underlying3 Tryz.cells_int h with ⟨hcs, _⟩ | ⟨a, len, cap, zs, hcs, _, hl, hm, hz, _, hcell, hwf⟩
  · injection hcs with hcs _
    subst hcs
    exact ⟨0, ⟨none, 0, rfl, .inl rfl⟩, by simp⟩
  · injection hcs with hcs _
    subst hcs
    simp only [if_true] at hz
    refine ⟨len, ⟨some a, cap, rfl, ?_⟩, by unfold maxLen at hm; omega⟩
    by_cases h0 : len = 0
    · exact .inl h0
    · right
      obtain ⟨b, off, spot⟩ := a
      have h1 := hcell 0 (by omega)
      have hspot : spot = none := by simpa [Addr.add] using World.cell?_spot h1
      subst hspot
      refine ⟨b, off, rfl, fun j hj => ?_⟩
      have h2 := hcell j (by omega)
      have hadd : (⟨b, off, none⟩ : Addr).add j = ⟨b, off + j, none⟩ := by unfold Addr.add; split <;> simp_all
      rw [hadd] at h2
      exact ⟨_, h2⟩
end
section
open Go.RowKit Go
set_option maxRecDepth 1000000 in
set_option maxHeartbeats 4000000 in
/-- The depth of a row: some number. -/
theorem depth8_any (w : World) (v0 : Value) (aI : Option Addr) (nI cI i : Nat) (hI : IntsIn w (.slice aI nI cI) nI) (hi : i ≤ 1000) :
    Calls Tryz.prog 6 #[.agg #[v0, .slice aI nI cI], .int .i64 (i : Nat)] w fun e w' => ∃ z : Int, e = .returned (.int .i64 z) ∧ Below w.heap.size w w' := by
  have HT : Hid ((w.alloc (.cells #[v0, .slice aI nI cI] 25)).heap[w.heap.size]? = some (.cells #[v0, .slice aI nI cI] 25 (0, 0))) := heap_alloc_new w _
  have HB := hide (below_alloc4 w (.cells #[v0, .slice aI nI cI] 25))
  have HI := hide hI
  have hmx := hI.max
  clear hI
  go_enter Tryz.func6, Tryz.ntmps6
  by_cases h0 : nI = 0
  · have g0 : ((nI : Int) == 0) = true := beq_iff_eq.2 (by omega)
    clear h0
    go_wp2_with fail
    go_ret
    exact ⟨_, rfl, HB.out⟩
  · have g0 : ((nI : Int) == 0) = false := beq_eq_false_iff_ne.2 (by omega)
    have q1 : (w.alloc (.cells #[v0, .slice aI nI cI] 25)).cell? ⟨w.heap.size, 1, none⟩ = some (.slice aI nI cI) := blk_cell HT.out rfl
    obtain ⟨a', c', hv, hform⟩ := HI.out.form
    injection hv with e1 e2 e3
    subst e1
    obtain ⟨b, off, rfl, hcells⟩ := hform.resolve_left h0
    have hmod : i % nI < nI := Nat.mod_lt _ (by omega)
    obtain ⟨z, hz⟩ := hcells (i % nI) hmod
    have cz := keep_below HB.out _ _ hz
    have htm : (i : Int).tmod (nI : Int) = ((i % nI : Nat) : Int) := by rw [Int.tmod_eq_emod_of_nonneg (by omega)]; omega
    have hml : ((i % nI : Nat) : Int) < (nI : Int) := by omega
    have gp : (0 : Int) < (nI : Int) := by omega
    clear hform hcells hmod hz e2 e3
    generalize i % nI = im at *
    go_wp2_with fail
    generalize w.alloc (.cells #[v0, .slice (some ⟨b, off, none⟩) nI cI] 25) = w0 at *
    go_region
    go_wp2_with fail
    go_ret
    exact ⟨z, rfl, HB.out.trans ((Below.refl _ _).drew)⟩
end
section
open Go.RowKit Go
/-! ### Appending to a row of the call's own: where the new one lies -/
/-- What laying tells: these bytes behind a row. -/
def LayP (w : World) (B : Nat) (v : Value) (n : Nat) (ds xs : List Nat) (e : Ending) (w' : World) : Prop :=
  ∃ v', e = .returned v' ∧ w'.ownsRow B 5 1 v' (n + xs.length) (bv (ds ++ xs)) ∧ v' ≠ .slice none 0 0 ∧ Kp (fun q => v.ownBlock = some q) w w' ∧ (v'.ownBlock = v.ownBlock ∨ ∀ q, v'.ownBlock = some q → w.heap.size ≤ q)
/-- Where the new row lies. -/
def At7 (w : World) (v v' : Value) : Prop := v'.ownBlock = v.ownBlock ∨ ∀ q, v'.ownBlock = some q → w.heap.size ≤ q
theorem append_tu {t u ty : TypeId} {e e' : TypeId} (ht : Tryz.prog.underlying t = some (.slice e)) (hu : Tryz.prog.underlying u = some (.slice e')) (b : Option Addr) (n c : Nat) (x : Value) (w : World) : (Builtin.append_ #[t, u] ty #[.slice b n c, x]).run Tryz.prog w = (Builtin.append_ #[t, t] ty #[.slice b n c, x]).run Tryz.prog w := by
  have h1 : ∀ w, (underlying t).run Tryz.prog w = .ok (.slice e) w := fun w => run_underlying ht w
  have h2 : ∀ w, (underlying u).run Tryz.prog w = .ok (.slice e') w := fun w => run_underlying hu w
  simp [Builtin.append_, Sem.run_bind, h1, h2]
theorem own_slice7 {w : World} {B e s n : Nat} {v : Value} {xs : List Value} (h : w.ownsRow B e s v n xs) : ∃ a c, v = .slice a n c := by
  rcases h.2 with ⟨e, h0⟩ | ⟨g, c, cur, e, _⟩
  · exact ⟨none, 0, by rw [e, h0]⟩
  · exact ⟨_, c, e⟩
theorem append_bytes {ops : Array Oper} {rest : List Oper} {o : Oper} {a : Act} {Q : Exit → Act → World → Prop} {w : World} (hgd : o.guard = none) (s x : Operand) (t u : TypeId)
    (ho : o.op = .call { callee := .builtin .append, args := #[s, x], argTypes := #[t, u] }) (ht : Tryz.prog.underlying t = some (.slice 5)) (hu : Tryz.prog.underlying u = some (.slice 5)) (B : Nat) (v : Value) (n : Nat) (ds : List Nat) (hs : a.eval s = v) (hown : w.ownsRow B 5 1 v n (bv ds)) (hnn : v ≠ .slice none 0 0)
    (uv : Value) (xs : List Nat) (hx : a.eval x = uv) (hsl : BSl w uv xs) (hlen : n + xs.length ≤ 140737488355328) (hbase : B ≤ w.heap.size)
    (h : ∀ v' w', w'.ownsRow B 5 1 v' (n + xs.length) (bv (ds ++ xs)) → w.grownBy w' v.ownBlock → v' ≠ .slice none 0 0 → At7 w v v' → wpList Tryz.prog ops Q rest (a.put o.dst v') w') : wpList Tryz.prog ops Q (o :: rest) a w := by
  obtain ⟨i5, hi, hz0, hz1, hz2⟩ := info5_ex
  obtain ⟨⟨ad, cap, rfl, hn, hc⟩, hmax, hb⟩ := id hsl
  refine wpList_plain hgd fun K hK => ?_
  cases ad with
  | none =>
    rcases hc with rfl | ⟨_, _, e, _⟩
    · have := hn.2 rfl
      subst this
      have hrun := run_append_owned_none (P := Tryz.prog) (w := w) B t o.type 5 i5 1 ht hi v n (bv ds) hown
      obtain ⟨av, cv, hvv⟩ := own_slice7 hown
      rw [hvv] at hrun hs
      rw [← append_tu ht hu] at hrun
      unfold Oper.wp
      simp only [List.length_nil] at hx
      simp [execOp, ho, resolve, invoke, builtin, hs, hx, hrun, Result.andThen]
      have h9 := h v w (by simpa using hown) ⟨rfl, rfl, rfl, Nat.le_refl _, fun _ _ _ => rfl⟩ hnn (.inl rfl)
      rw [hvv] at h9
      exact hK _ _ h9
    · cases e
  | some ad =>
    obtain ⟨v', w', hrun, r1, r2, r3, r4⟩ := run_append_own_at (P := Tryz.prog) w B t o.type 5 i5 (.int .u8 0) 1 1 ht hi hz0 hz1 hz2 rfl (by decide) v n (bv ds) hown ad xs.length cap (bv xs) (by simp [bv]) hsl.src.2 (bv_one xs) (by unfold maxLen; omega) (by omega) hbase
    obtain ⟨av, cv, hvv⟩ := own_slice7 hown
    rw [hvv] at hrun hs
    rw [← append_tu ht hu] at hrun
    unfold Oper.wp
    simp [execOp, ho, resolve, invoke, builtin, hs, hx, hrun, Result.andThen]
    refine hK _ _ (h v' w' (by rw [bv_app]; exact r1) r2 (fun e => hnn (r3.1 e).1) ?_)
    rcases r4 with e | e
    · exact .inl e
    · exact .inr (fun q hq => by rw [e] at hq; injection hq with hq; omega)
theorem strCells_bv (s : ByteArray) : Lib.strCells s = bv (sl s) := by
  unfold Lib.strCells bv sl
  simp
theorem append_text {ops : Array Oper} {rest : List Oper} {o : Oper} {a : Act} {Q : Exit → Act → World → Prop} {w : World} (hgd : o.guard = none) (s x : Operand) (t u : TypeId)
    (ho : o.op = .call { callee := .builtin .append, args := #[s, x], argTypes := #[t, u] }) (ht : Tryz.prog.underlying t = some (.slice 5)) (hu : Tryz.prog.underlying u = some .string) (B : Nat) (v : Value) (n : Nat) (ds : List Nat) (hs : a.eval s = v) (hown : w.ownsRow B 5 1 v n (bv ds)) (hnn : v ≠ .slice none 0 0)
    (str : ByteArray) (hx : a.eval x = .string str) (hlen : n + str.size ≤ 140737488355328) (hbase : B ≤ w.heap.size)
    (h : ∀ v' w', w'.ownsRow B 5 1 v' (n + str.size) (bv (ds ++ sl str)) → w.grownBy w' v.ownBlock → v' ≠ .slice none 0 0 → At7 w v v' → wpList Tryz.prog ops Q rest (a.put o.dst v') w') : wpList Tryz.prog ops Q (o :: rest) a w := by
  obtain ⟨i5, hi, hz0, hz1, hz2⟩ := info5_ex
  refine wpList_plain hgd fun K hK => ?_
  obtain ⟨v', w', hrun, r1, r2, r3⟩ := Lib.run_append_own_string (P := Tryz.prog) w B t u o.type 5 i5 ht hu hi hz0 hz1 hz2 v n (bv ds) hown str (by unfold maxLen; omega) hlen hbase
  have hat : v'.ownBlock = v.ownBlock ∨ ∀ q, v'.ownBlock = some q → w.heap.size ≤ q := by
    rcases hown.2 with ⟨e, _⟩ | ⟨g, cap, cur, rfl, hbg, hg, hnc, hcm, hcs, htake⟩
    · exact absurd e hnn
    · by_cases hroom : n + str.size ≤ cap
      · have hr := Lib.run_append_room_string (P := Tryz.prog) w t u o.type 5 i5 ht hu hi hz1 g n cap cur hg str hroom (by rw [hcs]; omega)
        rw [hrun] at hr
        injection hr with hr _
        rw [hr]
        exact .inl rfl
      · have holds : ∀ j x, (bv ds)[j]? = some x → w.cell? ((⟨g, 0, none⟩ : Addr).add j) = some x := hown.cells (g := g) rfl
        have hr := Lib.run_append_grow_string (P := Tryz.prog) w t u o.type 5 i5 (.int .u8 0) ht hu hi hz0 ⟨g, 0, none⟩ n cap (bv ds) (by rw [hz1]; exact hown.1) holds str (by omega) (by omega) (by rw [hz2]; exact growslice_fits (by omega) (by omega))
        rw [hrun] at hr
        injection hr with hr _
        rw [hr]
        exact .inr (fun q hq => Nat.le_of_eq (Option.some.inj hq))
  unfold Oper.wp
  simp [execOp, ho, resolve, invoke, builtin, hs, hx, hrun, Result.andThen]
  exact hK _ _ (h v' w' (by rw [bv_app, ← strCells_bv]; exact r1) r2 (fun e => hnn (r3.1 e).1) hat)
end
section
open Go.RowKit Go
theorem LayP.mk {w : World} {B : Nat} {v : Value} {n : Nat} {ds xs : List Nat} {w0 w' v' : _} {k : Nat} (hb : Below w.heap.size w w0) (hk : k = n + xs.length) (h1 : w'.ownsRow B 5 1 v' k (bv (ds ++ xs))) (h2 : w0.grownBy w' v.ownBlock) (h3 : v' ≠ .slice none 0 0) (h4 : v'.ownBlock = v.ownBlock ∨ ∀ q, v'.ownBlock = some q → w0.heap.size ≤ q) : LayP w B v n ds xs (.returned v') w' := by
  subst hk
  refine ⟨v', rfl, h1, h3, (Kp.of_below hb).grown h2 (fun _ _ e => e), ?_⟩
  rcases h4 with e | e
  · exact .inl e
  · exact .inr (fun q hq => Nat.le_trans hb.size (e q hq))
theorem LayP.step {w : World} {B : Nat} {v : Value} {n : Nat} {ds xs : List Nat} {w0 w' v' : _} (hb : Below w.heap.size w w0) (h1 : w'.ownsRow B 5 1 v' (n + xs.length) (bv (ds ++ xs))) (h2 : Kp (fun q => v.ownBlock = some q) w0 w') (h3 : v' ≠ .slice none 0 0) (h4 : v'.ownBlock = v.ownBlock ∨ ∀ q, v'.ownBlock = some q → w0.heap.size ≤ q) : LayP w B v n ds xs (.returned v') w' := by
  refine ⟨v', rfl, h1, h3, (Kp.of_below hb).trans h2 (fun _ _ e => e), ?_⟩
  rcases h4 with e | e
  · exact .inl e
  · exact .inr (fun q hq => Nat.le_trans hb.size (e q hq))
theorem hlay_hl (m n : Nat) (hm : m ≤ 7) : hlay (m : Int) n = hl m n := by
  unfold hlay
  rw [if_pos (by omega), Int.toNat_natCast]
theorem hl_byte7 (m n : Nat) (hm : m ≤ 7) : ∀ x ∈ hl m n, x < 256 := by
  intro x hx
  unfold hl at hx
  rcases List.mem_cons.1 hx with e | e
  · rcases hinfo_cases n with h | h | h | h | h <;> omega
  · exact be_byte _ _ x e
theorem hsize_le7 (n : Nat) : hsize n ≤ 9 := by
  unfold hsize
  have := hwide_le (hinfo n)
  omega
set_option maxRecDepth 1000000 in
theorem withHead_any (w : World) (B : Nat) (v : Value) (n : Nat) (ds : List Nat) (hown : w.ownsRow B 5 1 v n (bv ds)) (hnn : v ≠ .slice none 0 0) (hB : B ≤ w.heap.size) (hn : n ≤ 140737488350000) (m N : Nat) (hm : m ≤ 7) (hN : N < 18446744073709551616) :
    Calls Tryz.prog 215 #[v, .int .i64 (m : Nat), .int .u64 (N : Nat)] w (LayP w B v n ds (hl m N)) := by
  have HO := hide hown
  have HNN := hide hnn
  obtain ⟨a, c, hv⟩ := own_slice7 hown
  subst hv
  have HB := hide hB
  have HN := hide hn
  clear hown hnn hB hn
  go_enter Tryz.func215, Tryz.ntmps215
  go_wp2_with fail
  refine (lay_any (m : Int) N w (by omega) hN).mono ?_
  rintro e w1 ⟨v1, rfl, ho1, hb1⟩
  rw [hlay_hl m N hm] at ho1
  have HS1 := hide (BSl.own ho1 (hl_byte7 m N hm))
  have HO1 : Hid (w1.ownsRow B 5 1 (.slice a n c) n (bv ds)) := (Kp.of_below (S := fun _ => False) hb1).owns HO.out (fun _ _ h => h)
  have HB1 := hide hb1
  have HL : Hid (n + (hl m N).length ≤ 140737488355328) := by show _ ≤ _; rw [hl_len7]; have := hsize_le7 N; have := HN.out; omega
  clear ho1 hb1
  go_wp2_with (at_builtin; refine append_bytes rfl _ _ 46 46 rfl Tryz.underlying46 Tryz.underlying46 B _ n ds rfl HO1.out HNN.out _ (hl m N) rfl HS1.out HL.out (Nat.le_trans HB.out HB1.out.size) ?_)
  intro v2 w2 h1 h2 h3 h4
  have HF : Hid (LayP w B (.slice a n c) n ds (hl m N) (.returned v2) w2) := LayP.mk HB1.out rfl h1 h2 h3 h4
  clear h1 h2 h3 h4
  go_wp2_with fail
  go_ret
  exact HF.out
theorem lit1_bsl (w : World) (x : Nat) (z : Int) (hz : z = ((x : Nat) : Int)) (hx : x < 256) : Below w.heap.size w (w.alloc (.cells #[.int .u8 z] 5)) ∧ BSl (w.alloc (.cells #[.int .u8 z] 5)) (.slice (some ⟨w.heap.size, 0, none⟩) 1 1) [x] := by
  subst hz
  exact ⟨below_alloc4 w _, one_bsl w x hx⟩
set_option maxRecDepth 1000000 in
theorem nullLay_any (w : World) (B : Nat) (v : Value) (n : Nat) (ds : List Nat) (hown : w.ownsRow B 5 1 v n (bv ds)) (hnn : v ≠ .slice none 0 0) (hB : B ≤ w.heap.size) (hn : n ≤ 140737488350000) :
    Calls Tryz.prog 228 #[.agg #[], v] w (LayP w B v n ds [246]) := by
  have HO := hide hown
  have HNN := hide hnn
  obtain ⟨a, c, hv⟩ := own_slice7 hown
  subst hv
  have HB := hide hB
  have HN := hide hn
  clear hown hnn hB hn
  have hb0 : Below w.heap.size w (w.alloc (.cells #[] 204)) := below_alloc4 w _
  have hl1 := lit1_bsl (w.alloc (.cells #[] 204)) 246 246 rfl (by decide)
  have hsz : (w.alloc (.cells #[] 204)).heap.size = w.heap.size + 1 := by simp
  have HB1 : Hid (Below w.heap.size w ((w.alloc (.cells #[] 204)).alloc (.cells #[.int .u8 246] 5))) := hb0.trans (hl1.1.mono hb0.size)
  have HS1 : Hid (BSl ((w.alloc (.cells #[] 204)).alloc (.cells #[.int .u8 246] 5)) (.slice (some ⟨w.heap.size + 1, 0, none⟩) 1 1) [246]) := by have h := hl1.2; rw [hsz] at h; exact h
  have HO1 : Hid (((w.alloc (.cells #[] 204)).alloc (.cells #[.int .u8 246] 5)).ownsRow B 5 1 (.slice a n c) n (bv ds)) := (Kp.of_below (S := fun _ => False) HB1.out).owns HO.out (fun _ _ h => h)
  clear hb0 hl1 hsz
  go_enter Tryz.func228, Tryz.ntmps228
  go_wp2_with (at_builtin; refine append_bytes rfl _ _ 46 46 rfl Tryz.underlying46 Tryz.underlying46 B _ n ds rfl HO1.out HNN.out _ [246] rfl HS1.out (by have := HN.out; show n + 1 ≤ _; omega) (Nat.le_trans HB.out HB1.out.size) ?_)
  intro v2 w2 h1 h2 h3 h4
  have HF : Hid (LayP w B (.slice a n c) n ds [246] (.returned v2) w2) := LayP.mk HB1.out rfl h1 h2 h3 h4
  clear h1 h2 h3 h4
  go_wp2_with fail
  go_ret
  exact HF.out
set_option maxRecDepth 1000000 in
theorem trueLay_any (w : World) (B : Nat) (v : Value) (n : Nat) (ds : List Nat) (hown : w.ownsRow B 5 1 v n (bv ds)) (hnn : v ≠ .slice none 0 0) (hB : B ≤ w.heap.size) (hn : n ≤ 140737488350000) :
    Calls Tryz.prog 211 #[.bool true, v] w (LayP w B v n ds [245]) := by
  have HO := hide hown
  have HNN := hide hnn
  obtain ⟨a, c, hv⟩ := own_slice7 hown
  subst hv
  have HB := hide hB
  have HN := hide hn
  clear hown hnn hB hn
  have hb0 : Below w.heap.size w w := Below.refl _ _
  have hl1 := lit1_bsl w 245 245 rfl (by decide)
  have HB1 : Hid (Below w.heap.size w (w.alloc (.cells #[.int .u8 245] 5))) := hb0.trans (hl1.1.mono hb0.size)
  have HS1 := hide hl1.2
  have HO1 : Hid ((w.alloc (.cells #[.int .u8 245] 5)).ownsRow B 5 1 (.slice a n c) n (bv ds)) := (Kp.of_below (S := fun _ => False) HB1.out).owns HO.out (fun _ _ h => h)
  clear hb0 hl1
  go_enter Tryz.func211, Tryz.ntmps211
  go_wp2_with (at_builtin; refine append_bytes rfl _ _ 46 46 rfl Tryz.underlying46 Tryz.underlying46 B _ n ds rfl HO1.out HNN.out _ [245] rfl HS1.out (by have := HN.out; show n + 1 ≤ _; omega) (Nat.le_trans HB.out HB1.out.size) ?_)
  intro v2 w2 h1 h2 h3 h4
  have HF : Hid (LayP w B (.slice a n c) n ds [245] (.returned v2) w2) := LayP.mk HB1.out rfl h1 h2 h3 h4
  clear h1 h2 h3 h4
  go_wp2_with fail
  go_ret
  exact HF.out
set_option maxRecDepth 1000000 in
theorem falseLay_any (w : World) (B : Nat) (v : Value) (n : Nat) (ds : List Nat) (hown : w.ownsRow B 5 1 v n (bv ds)) (hnn : v ≠ .slice none 0 0) (hB : B ≤ w.heap.size) (hn : n ≤ 140737488350000) :
    Calls Tryz.prog 211 #[.bool false, v] w (LayP w B v n ds [244]) := by
  have HO := hide hown
  have HNN := hide hnn
  obtain ⟨a, c, hv⟩ := own_slice7 hown
  subst hv
  have HB := hide hB
  have HN := hide hn
  clear hown hnn hB hn
  have hb0 : Below w.heap.size w w := Below.refl _ _
  have hl1 := lit1_bsl w 244 244 rfl (by decide)
  have HB1 : Hid (Below w.heap.size w (w.alloc (.cells #[.int .u8 244] 5))) := hb0.trans (hl1.1.mono hb0.size)
  have HS1 := hide hl1.2
  have HO1 : Hid ((w.alloc (.cells #[.int .u8 244] 5)).ownsRow B 5 1 (.slice a n c) n (bv ds)) := (Kp.of_below (S := fun _ => False) HB1.out).owns HO.out (fun _ _ h => h)
  clear hb0 hl1
  go_enter Tryz.func211, Tryz.ntmps211
  go_wp2_with (at_builtin; refine append_bytes rfl _ _ 46 46 rfl Tryz.underlying46 Tryz.underlying46 B _ n ds rfl HO1.out HNN.out _ [244] rfl HS1.out (by have := HN.out; show n + 1 ≤ _; omega) (Nat.le_trans HB.out HB1.out.size) ?_)
  intro v2 w2 h1 h2 h3 h4
  have HF : Hid (LayP w B (.slice a n c) n ds [244] (.returned v2) w2) := LayP.mk HB1.out rfl h1 h2 h3 h4
  clear h1 h2 h3 h4
  go_wp2_with fail
  go_ret
  exact HF.out
set_option maxRecDepth 1000000 in
theorem wholeLay_any (w : World) (B : Nat) (v : Value) (n : Nat) (ds : List Nat) (hown : w.ownsRow B 5 1 v n (bv ds)) (hnn : v ≠ .slice none 0 0) (hB : B ≤ w.heap.size) (hn : n ≤ 140737488350000) (g : Bool) (N : Nat) (hN : N < 18446744073709551616) :
    Calls Tryz.prog 213 #[.agg #[.bool g, .int .u64 (N : Nat)], v] w (LayP w B v n ds (hl (if g = true then 1 else 0) N)) := by
  have HO := hide hown
  have HNN := hide hnn
  obtain ⟨a, c, hv⟩ := own_slice7 hown
  subst hv
  have HB := hide hB
  have HN := hide hn
  clear hown hnn hB hn
  have hb0 := below_alloc4 w (.cells #[.bool g, .int .u64 (N : Nat)] 195)
  have HB1 := hide hb0
  have HO1 : Hid ((w.alloc (.cells #[.bool g, .int .u64 (N : Nat)] 195)).ownsRow B 5 1 (.slice a n c) n (bv ds)) := (Kp.of_below (S := fun _ => False) hb0).owns HO.out (fun _ _ h => h)
  have HFN : Hid (∀ m : Nat, m ≤ 7 → Calls Tryz.prog 215 #[.slice a n c, .int .i64 (m : Nat), .int .u64 (N : Nat)] (w.alloc (.cells #[.bool g, .int .u64 (N : Nat)] 195)) (LayP (w.alloc (.cells #[.bool g, .int .u64 (N : Nat)] 195)) B (.slice a n c) n ds (hl m N))) := fun m hm => withHead_any _ B _ n ds HO1.out HNN.out (Nat.le_trans HB.out hb0.size) HN.out m N hm hN
  clear hb0
  cases g with
  | true =>
    go_enter Tryz.func213, Tryz.ntmps213
    go_wp2_with fail
    refine (HFN.out 1 (by decide)).mono ?_
    rintro e w2 ⟨v2, rfl, h1, h3, h2, h4⟩
    have HF : Hid (LayP w B (.slice a n c) n ds (hl 1 N) (.returned v2) w2) := LayP.step HB1.out h1 h2 h3 h4
    clear h1 h2 h3 h4
    go_wp2_with fail
    go_ret
    exact HF.out
  | false =>
    go_enter Tryz.func213, Tryz.ntmps213
    go_wp2_with fail
    refine (HFN.out 0 (by decide)).mono ?_
    rintro e w2 ⟨v2, rfl, h1, h3, h2, h4⟩
    have HF : Hid (LayP w B (.slice a n c) n ds (hl 0 N) (.returned v2) w2) := LayP.step HB1.out h1 h2 h3 h4
    clear h1 h2 h3 h4
    go_wp2_with fail
    go_ret
    exact HF.out
end
section
open Go.RowKit Go
theorem LayP.two {w : World} {B : Nat} {v : Value} {n k : Nat} {ds xs ys : List Nat} {w1 w2 : World} {v2 v3 : Value} (hk : Kp (fun q => v.ownBlock = some q) w w1) (ha : At7 w v v2) (h0 : k = n + xs.length + ys.length) (h1 : w2.ownsRow B 5 1 v3 k (bv (ds ++ (xs ++ ys)))) (h2 : Kp (fun q => v2.ownBlock = some q) w1 w2) (h3 : v3 ≠ .slice none 0 0) (h4 : At7 w1 v2 v3) : LayP w B v n ds (xs ++ ys) (.returned v3) w2 := by
  subst h0
  refine ⟨v3, rfl, by rw [List.length_append, ← Nat.add_assoc]; exact h1, h3, hk.trans h2 (fun q hq e => ?_), ?_⟩
  · rcases ha with e2 | e2
    · rw [← e2]; exact e
    · have := e2 q e
      omega
  · rcases h4 with e | e
    · rcases ha with e2 | e2
      · exact .inl (e.trans e2)
      · exact .inr (fun q hq => e2 q (by rw [← e]; exact hq))
    · exact .inr (fun q hq => Nat.le_trans hk.size (e q hq))
theorem kp_grown {w1 w2 : World} {v2 : Value} (h : w1.grownBy w2 v2.ownBlock) : Kp (fun q => v2.ownBlock = some q) w1 w2 := (Kp.refl _ _).grown h (fun _ _ e => e)
set_option maxRecDepth 1000000 in
theorem textLay_any (w : World) (B : Nat) (v : Value) (n : Nat) (ds : List Nat) (hown : w.ownsRow B 5 1 v n (bv ds)) (hnn : v ≠ .slice none 0 0) (hB : B ≤ w.heap.size) (hn : n ≤ 140737488350000) (s : ByteArray) (hs : n + s.size ≤ 140737488350000) :
    Calls Tryz.prog 219 #[.string s, v] w (LayP w B v n ds (kfm s)) := by
  have HSZ := hide hs
  have hs2 : s.size < 9223372036854775808 := by omega
  have HO := hide hown
  have HNN := hide hnn
  obtain ⟨a, c, hv⟩ := own_slice7 hown
  subst hv
  have HB := hide hB
  have HN := hide hn
  clear hown hnn hB hn
  have HWH := hide (withHead_any w B _ n ds HO.out HNN.out HB.out HN.out 3 s.size (by decide) (by omega))
  clear hs
  go_enter Tryz.func219, Tryz.ntmps219
  go_wp2_with fail
  refine HWH.out.mono ?_
  rintro e w1 ⟨v2, rfl, h1, h3, h2, h4⟩
  have HO1 := hide h1
  have HNN1 := hide h3
  have HKP := hide h2
  have HAT : Hid (At7 w (.slice a n c) v2) := h4
  have HB1 : Hid (B ≤ w1.heap.size) := Nat.le_trans HB.out h2.size
  have HLN : Hid (n + (hl 3 s.size).length + s.size ≤ 140737488355328) := by show _ ≤ _; rw [hl_len7]; have := hsize_le7 s.size; have := HSZ.out; omega
  clear h1 h2 h3 h4 HWH
  go_wp2_with (at_builtin; refine append_text rfl _ _ 46 197 rfl Tryz.underlying46 Tryz.underlying197 B _ (n + (hl 3 s.size).length) (ds ++ hl 3 s.size) rfl HO1.out HNN1.out s rfl HLN.out HB1.out ?_)
  intro v3 w2 h1 h2 h3 h4
  have HF : Hid (LayP w B (.slice a n c) n ds (kfm s) (.returned v3) w2) := by
    show LayP w B _ n ds _ _ _
    unfold kfm
    rw [sl_len7]
    exact LayP.two HKP.out HAT.out (by rw [sl_len7]) h1 (kp_grown h2) h3 h4
  clear h1 h2 h3 h4
  go_wp2_with fail
  go_ret
  exact HF.out
theorem bsl_kp7 {w w' : World} {vb v : Value} {y : List Nat} (h : BSl w vb y) (hv : y ≠ [] → ∀ q, vb.ownBlock = some q → v.ownBlock ≠ some q) (hk : Kp (fun q => v.ownBlock = some q) w w') : BSl w' vb y := by
  by_cases e : y = []
  · rw [e] at h ⊢
    exact bsl_nil6 h
  · exact hk.bsl h (hv e)
set_option maxRecDepth 1000000 in
theorem octetsLay_any (w : World) (B : Nat) (v : Value) (n : Nat) (ds : List Nat) (hown : w.ownsRow B 5 1 v n (bv ds)) (hnn : v ≠ .slice none 0 0) (hB : B ≤ w.heap.size) (hn : n ≤ 140737488350000) (vb : Value) (y : List Nat) (hy : BSl w vb y) (hyv : y ≠ [] → ∀ q, vb.ownBlock = some q → v.ownBlock ≠ some q) (hs : n + y.length ≤ 140737488350000) :
    Calls Tryz.prog 222 #[vb, v] w (LayP w B v n ds (hl 2 y.length ++ y)) := by
  have HSZ := hide hs
  have HY := hide hy
  have HYV := hide hyv
  have hs2 : y.length < 9223372036854775808 := by omega
  have HO := hide hown
  have HNN := hide hnn
  obtain ⟨a, c, hv⟩ := own_slice7 hown
  subst hv
  have HB := hide hB
  have HN := hide hn
  clear hown hnn hB hn
  obtain ⟨⟨ab, cb, hvb, _, _⟩, _, _⟩ := hy
  subst hvb
  have HWH := hide (withHead_any w B _ n ds HO.out HNN.out HB.out HN.out 2 y.length (by decide) (by omega))
  clear hs hyv
  go_enter Tryz.func222, Tryz.ntmps222
  go_wp2_with fail
  refine HWH.out.mono ?_
  rintro e w1 ⟨v2, rfl, h1, h3, h2, h4⟩
  have HO1 := hide h1
  have HNN1 := hide h3
  have HKP := hide h2
  have HAT : Hid (At7 w (.slice a n c) v2) := h4
  have HB1 : Hid (B ≤ w1.heap.size) := Nat.le_trans HB.out h2.size
  have HLN : Hid (n + (hl 2 y.length).length + y.length ≤ 140737488355328) := by show _ ≤ _; rw [hl_len7]; have := hsize_le7 y.length; have := HSZ.out; omega
  have HY1 := hide (bsl_kp7 HY.out HYV.out h2)
  clear h1 h2 h3 h4 HWH
  go_wp2_with (at_builtin; refine append_bytes rfl _ _ 46 198 rfl Tryz.underlying46 Tryz.underlying198 B _ (n + (hl 2 y.length).length) (ds ++ hl 2 y.length) rfl HO1.out HNN1.out _ y rfl HY1.out HLN.out HB1.out ?_)
  intro v3 w2 h1 h2 h3 h4
  have HF : Hid (LayP w B (.slice a n c) n ds (hl 2 y.length ++ y) (.returned v3) w2) := LayP.two HKP.out HAT.out rfl h1 (kp_grown h2) h3 h4
  clear h1 h2 h3 h4
  go_wp2_with fail
  go_ret
  exact HF.out
set_option maxRecDepth 1000000 in
theorem listLay_any (w : World) (B : Nat) (v : Value) (n : Nat) (ds : List Nat) (hown : w.ownsRow B 5 1 v n (bv ds)) (hnn : v ≠ .slice none 0 0) (hB : B ≤ w.heap.size) (hn : n ≤ 140737488350000) (ai : Option Addr) (k ci : Nat) (hk : k ≤ 140737488351232) :
    Calls Tryz.prog 224 #[.slice ai k ci, v] w (LayP w B v n ds (hl 4 k)) := by
  have HO := hide hown
  have HNN := hide hnn
  obtain ⟨a, c, hv⟩ := own_slice7 hown
  subst hv
  have HB := hide hB
  have HN := hide hn
  clear hown hnn hB hn
  have HWH := hide (withHead_any w B _ n ds HO.out HNN.out HB.out HN.out 4 k (by decide) (by omega))
  go_enter Tryz.func224, Tryz.ntmps224
  go_wp2_with fail
  refine HWH.out.mono ?_
  rintro e w1 ⟨v2, rfl, h1, h3, h2, h4⟩
  have HF : Hid (LayP w B (.slice a n c) n ds (hl 4 k) (.returned v2) w1) := ⟨v2, rfl, h1, h3, h2, h4⟩
  clear h1 h2 h3 h4 HWH
  go_wp2_with fail
  go_ret
  exact HF.out
set_option maxRecDepth 1000000 in
theorem entriesLay_any (w : World) (B : Nat) (v : Value) (n : Nat) (ds : List Nat) (hown : w.ownsRow B 5 1 v n (bv ds)) (hnn : v ≠ .slice none 0 0) (hB : B ≤ w.heap.size) (hn : n ≤ 140737488350000) (ak : Option Addr) (k ck : Nat) (vi : Value) (hk : k ≤ 140737488351232) :
    Calls Tryz.prog 226 #[.agg #[.slice ak k ck, vi], v] w (LayP w B v n ds (hl 5 k)) := by
  have HO := hide hown
  have HNN := hide hnn
  obtain ⟨a, c, hv⟩ := own_slice7 hown
  subst hv
  have HB := hide hB
  have HN := hide hn
  clear hown hnn hB hn
  have hb0 := below_alloc4 w (.cells #[.slice ak k ck, vi] 202)
  have HB1 := hide hb0
  have HWH := hide (withHead_any (w.alloc (.cells #[.slice ak k ck, vi] 202)) B _ n ds ((Kp.of_below (S := fun _ => False) hb0).owns HO.out (fun _ _ h => h)) HNN.out (Nat.le_trans HB.out hb0.size) HN.out 5 k (by decide) (by omega))
  clear hb0
  go_enter Tryz.func226, Tryz.ntmps226
  go_wp2_with fail
  refine HWH.out.mono ?_
  rintro e w1 ⟨v2, rfl, h1, h3, h2, h4⟩
  have HF : Hid (LayP w B (.slice a n c) n ds (hl 5 k) (.returned v2) w1) := LayP.step HB1.out h1 h2 h3 h4
  clear h1 h2 h3 h4 HWH
  go_wp2_with fail
  go_ret
  exact HF.out
end
section
open Go.RowKit Go
theorem LayP.out {w w' : World} {B : Nat} {v v2 : Value} {n : Nat} {ds xs : List Nat} (h : LayP w B v n ds xs (.returned v2) w') : w'.ownsRow B 5 1 v2 (n + xs.length) (bv (ds ++ xs)) ∧ v2 ≠ .slice none 0 0 ∧ Kp (fun q => v.ownBlock = some q) w w' ∧ At7 w v v2 := by
  obtain ⟨v', e, h1, h2, h3, h4⟩ := h
  injection e with e
  subst e
  exact ⟨h1, h2, h3, h4⟩
set_option maxRecDepth 1000000 in
set_option maxHeartbeats 1000000 in
theorem floatLay_any (w : World) (B : Nat) (v : Value) (n : Nat) (ds : List Nat) (hown : w.ownsRow B 5 1 v n (bv ds)) (hnn : v ≠ .slice none 0 0) (hB : B ≤ w.heap.size) (hn : n ≤ 140737488350000) (b : Nat) (hb : b < 18446744073709551616) :
    Calls Tryz.prog 217 #[.int .u64 (b : Nat), v] w (LayP w B v n ds (251 :: be 8 b)) := by
  have HBB := hide hb
  have HO := hide hown
  have HNN := hide hnn
  obtain ⟨a, c, hv⟩ := own_slice7 hown
  subst hv
  have HB := hide hB
  have HN := hide hn
  clear hown hnn hB hn
  have hl1 := lit1_bsl w 251 251 rfl (by decide)
  have HB1 := hide hl1.1
  have HS1 := hide hl1.2
  have HO1 : Hid ((w.alloc (.cells #[.int .u8 251] 5)).ownsRow B 5 1 (.slice a n c) n (bv ds)) := (Kp.of_below (S := fun _ => False) HB1.out).owns HO.out (fun _ _ h => h)
  clear hl1 hb
  go_enter Tryz.func217, Tryz.ntmps217
  go_wp2_with (at_builtin; refine append_bytes rfl _ _ 46 46 rfl Tryz.underlying46 Tryz.underlying46 B _ n ds rfl HO1.out HNN.out _ [251] rfl HS1.out (by have := HN.out; show n + 1 ≤ _; omega) (Nat.le_trans HB.out HB1.out.size) ?_)
  intro v2 w2 h1 h2 h3 h4
  have HF : Hid (LayP w B (.slice a n c) n ds [251] (.returned v2) w2) := LayP.mk HB1.out rfl h1 h2 h3 h4
  clear h1 h2 h3 h4
  go_wp2_with fail
  go_loopw [1, 9] (fun bb q wr => ∃ (k : Nat) (L : List Nat), k ≤ 8 ∧ q = .int .i64 (k : Nat) ∧ Hid (L = 251 :: (be 8 b).take k) ∧ Hid (LayP w B (.slice a n c) n ds L (.returned bb) wr)) (fun _ q _ => 8 - (intOf q).toNat)
  case atStart => exact ⟨0, [251], by omega, rfl, hide rfl, HF⟩
  case round =>
    rename World => wr
    obtain ⟨k, L, hk, rfl, HLL, HL⟩ := hrel
    clear HF
    by_cases hlt : k < 8
    · have hlt' : (k : Int) < 8 := by omega
      have e7 : IntKind.i64.wrap (7 - (k : Int)) = ((7 - k : Nat) : Int) := by rw [IntKind.wrap_i64]; omega
      have HTK : Hid ((be 8 b).take (k + 1) = (be 8 b).take k ++ [b / 256 ^ (7 - k) % 256]) := by
        show _ = _
        rw [show 7 - k = 8 - 1 - k by omega, ← be_get 8 b k hlt]
        exact take_snoc _ _ (by rw [be_len]; exact hlt)
      have hq8 : 7 - k < 8 := by omega
      have HK := hide hk
      have HLT := hide hlt
      clear hk hlt
      generalize 7 - k = q at *
      have hc : ((b / 256 ^ q % 256 : Nat) : Int) = (b : Int) / 2 ^ (8 * q) % 256 := by rw [pow_int8]; omega
      have hl2 := lit1_bsl wr (b / 256 ^ q % 256) ((b : Int) / 2 ^ (8 * q) % 256) hc.symm (Nat.mod_lt _ (by decide))
      obtain ⟨o1, o2, o3, o4⟩ := HL.out.out
      obtain ⟨ar, cr, hvr⟩ := own_slice7 o1
      subst hvr
      have HBR := hide hl2.1
      have HSR := hide hl2.2
      have HOR : Hid ((wr.alloc (.cells #[.int .u8 ((b : Int) / 2 ^ (8 * q) % 256)] 5)).ownsRow B 5 1 (.slice ar (n + L.length) cr) (n + L.length) (bv (ds ++ L))) := (Kp.of_below (S := fun _ => False) HBR.out).owns o1 (fun _ _ h => h)
      have HNR := hide o2
      have HKR : Hid (Kp (fun q => (Value.slice a n c).ownBlock = some q) w (wr.alloc (.cells #[.int .u8 ((b : Int) / 2 ^ (8 * q) % 256)] 5))) := o3.trans (Kp.of_below (S := fun q => (Value.slice a n c).ownBlock = some q) HBR.out) (fun _ _ e => e)
      have HAR := hide o4
      have HBz : Hid (B ≤ (wr.alloc (.cells #[.int .u8 ((b : Int) / 2 ^ (8 * q) % 256)] 5)).heap.size) := Nat.le_trans HB.out (Nat.le_trans o3.size HBR.out.size)
      have HLZ : Hid (n + L.length + 1 ≤ 140737488355328) := by show _ ≤ _; rw [HLL.out, List.length_cons, List.length_take]; have := HN.out; have := HLT.out; omega
      have e8 : IntKind.i64.wrap (8 * (q : Int)) = 8 * (q : Int) := by rw [IntKind.wrap_i64]; omega
      clear hl2 o1 o2 o3 o4 hc
      go_wp2_with (at_builtin; refine append_bytes rfl _ _ 46 46 rfl Tryz.underlying46 Tryz.underlying46 B _ (n + L.length) (ds ++ L) rfl HOR.out HNR.out _ [b / 256 ^ q % 256] rfl HSR.out HLZ.out HBz.out ?_)
      intro v3 w3 h1 h2 h3 h4
      have HF3 : Hid (LayP w B (.slice a n c) n ds (L ++ [b / 256 ^ q % 256]) (.returned v3) w3) := LayP.two HKR.out HAR.out rfl (by simpa using h1) (kp_grown h2) h3 h4
      have HL3 : Hid (L ++ [b / 256 ^ q % 256] = 251 :: (be 8 b).take (k + 1)) := by show _ = _; rw [HTK.out, HLL.out]; rfl
      clear h1 h2 h3 h4 HOR HNR HKR HAR HBz HLZ HBR HSR
      go_wp2_with fail
      go_roundw
      case rel => exact ⟨k + 1, _, by have := HLT.out; omega, by go_num, HL3, HF3⟩
      case measure => have := HLT.out; simp [intOf]; omega
    · have hlt' : ¬ (k : Int) < 8 := by omega
      have HE : Hid (LayP w B (.slice a n c) n ds (251 :: be 8 b) (.returned u1) wr) := by
        have h := HL.out
        rw [HLL.out, show k = 8 by omega, List.take_of_length_le (by rw [be_len]; exact Nat.le_refl _)] at h
        exact h
      clear hlt
      go_wp2_with fail
      go_ret
      exact HE.out
end
section
open Go.RowKit Go
set_option maxRecDepth 1000000 in
set_option maxHeartbeats 1000000 in
theorem nameLay_any (w : World) (B : Nat) (v : Value) (n : Nat) (ds : List Nat) (hown : w.ownsRow B 5 1 v n (bv ds)) (hnn : v ≠ .slice none 0 0) (hB : B ≤ w.heap.size) (hn : n ≤ 140737488350000) (vb : Value) (y : List Nat) (hy : BSl w vb y) (hy0 : y ≠ []) (hyv : ∀ q, vb.ownBlock = some q → v.ownBlock ≠ some q) (hs : n + 10 + y.length ≤ 140737488350000) :
    Calls Tryz.prog 230 #[.agg #[vb], v] w (LayP w B v n ds (hl 6 42 ++ (hl 2 y.length ++ y))) := by
  have HSZ := hide hs
  have HY := hide hy
  have HYV := hide hyv
  have HO := hide hown
  have HNN := hide hnn
  obtain ⟨a, c, hv⟩ := own_slice7 hown
  subst hv
  have HB := hide hB
  have HN := hide hn
  clear hown hnn hB hn
  obtain ⟨⟨ab, cb, hvb, _, _⟩, _, _⟩ := hy
  subst hvb
  have hb0 := below_alloc4 w (.cells #[.slice ab y.length cb] 226)
  have HB0 := hide hb0
  have HG0 := hide (heap_alloc_new w (.cells #[.slice ab y.length cb] 226))
  have HVL : Hid (∀ q, (Value.slice a n c).ownBlock = some q → q < w.heap.size) := fun q hq => (HO.out.lt q hq).2
  clear hs hyv hb0
  go_enter Tryz.func230, Tryz.ntmps230
  go_upto_region 1 with fail
  generalize w.alloc (.cells #[.slice ab y.length cb] 226) = w0 at *
  have HO0 : Hid (w0.ownsRow B 5 1 (.slice a n c) n (bv ds)) := (Kp.of_below (S := fun _ => False) HB0.out).owns HO.out (fun _ _ h => h)
  have HBz : Hid (B ≤ w0.heap.size) := Nat.le_trans HB.out HB0.out.size
  refine heldStart (S := fun wy => wy.heap[w.heap.size]? = some (.cells #[.slice ab y.length cb] 226 (0, 0))) (by kernel_rfl) ?_
  have hS : w0.drew.heap[w.heap.size]? = some (.cells #[.slice ab y.length cb] 226 (0, 0)) := HG0.out
  refine heldTake 0 _ rfl (by kernel_rfl) (by kernel_rfl) (by kernel_rfl) (fun _ _ _ h => h) rfl hS (fun wy hy => by first | (go_simp; done) | (go_simp; rfl) | rfl) ?_
  (try simp only [Act.put]); (try simp only [List.setIfInBounds_toArray, List.set_cons_zero, List.set_cons_succ])
  refine heldTake 1 _ rfl (by kernel_rfl) (by kernel_rfl) (by kernel_rfl) (fun _ _ _ h => h) rfl hS (fun wy hy => by have h0 := blk_cell (j := 0) (v := .slice ab y.length cb) hy rfl; first | (go_simp; done) | (go_simp; rfl) | rfl) ?_
  (try simp only [Act.put]); (try simp only [List.setIfInBounds_toArray, List.set_cons_zero, List.set_cons_succ])
  refine heldTake 2 _ rfl (by kernel_rfl) (by kernel_rfl) (by kernel_rfl) (fun _ _ _ h => h) rfl hS (fun wy hy => by first | (go_simp; done) | (go_simp; rfl) | rfl) ?_
  (try simp only [Act.put]); (try simp only [List.setIfInBounds_toArray, List.set_cons_zero, List.set_cons_succ])
  refine heldStep 3 rfl (by kernel_rfl) (fun K hK => ?_)
  go_simp
  refine (withHead_any w0.drew B _ n ds ((Kp.of_below (S := fun _ => False) (by refine Below.drew ?_; exact Below.refl _ _ : Below w0.heap.size w0 w0.drew)).owns HO0.out (fun _ _ h => h)) HNN.out HBz.out HN.out 6 42 (by decide) (by decide)).mono ?_
  rintro e w2 ⟨v2, rfl, h1, h3, h2, h4⟩
  have hkw : Kp (fun q => (Value.slice a n c).ownBlock = some q) w w2 := ((Kp.of_below (S := fun q => (Value.slice a n c).ownBlock = some q) HB0.out).drew).trans h2 (fun _ _ e => e)
  have haw : At7 w (.slice a n c) v2 := by
    rcases h4 with e | e
    · exact .inl e
    · exact .inr (fun q hq => Nat.le_trans HB0.out.size (e q hq))
  have HNB : Hid (v2.ownBlock ≠ some w.heap.size) := fun e => by
    rcases h4 with e2 | e2
    · exact Nat.lt_irrefl _ (HVL.out _ (e2.symm.trans e))
    · have h6 := e2 _ e
      have h7 := blk_lt HG0.out
      exact Nat.lt_irrefl _ (Nat.lt_of_lt_of_le h7 h6)
  refine (Hid.out hK) _ _ ((h2.block _ (blk_lt HG0.out) (fun e => Nat.lt_irrefl _ (HVL.out _ e))).trans HG0.out) (fun hS2 => ?_)
  clear hK K hS
  have hS := hS2
  clear hS2
  (try simp only [Act.put]); (try simp only [List.setIfInBounds_toArray, List.set_cons_zero, List.set_cons_succ])
  have HO2 := hide h1
  have HN2 := hide h3
  have HK2 := hide hkw
  have HA2 := hide haw
  have HL6 : Hid ((hl 6 42).length = 2) := rfl
  clear h1 h2 h3 h4 hkw haw
  obtain ⟨a2, c2, hv2⟩ := own_slice7 HO2.out
  subst hv2
  have HY2 := hide (HK2.out.bsl HY.out (fun k hk e => HYV.out k hk e))
  have HYV2 : Hid (∀ q, (Value.slice ab y.length cb).ownBlock = some q → (Value.slice a2 (n + (hl 6 42).length) c2).ownBlock ≠ some q) := fun q hq e => by
    rcases HA2.out with e2 | e2
    · exact HYV.out q hq (e2.symm.trans e)
    · have h5 := own_lt HY.out hy0 hq
      have := e2 q e
      omega
  have HB2 : Hid (B ≤ w2.heap.size) := Nat.le_trans HB.out HK2.out.size
  refine heldStep 4 rfl (by kernel_rfl) (fun K hK => ?_)
  go_simp
  refine (octetsLay_any w2 B _ (n + (hl 6 42).length) (ds ++ hl 6 42) HO2.out HN2.out HB2.out (by have := HSZ.out; have := HL6.out; omega) _ y HY2.out (fun _ => HYV2.out) (by have := HSZ.out; have := HL6.out; omega)).mono ?_
  rintro e w3 ⟨v3, rfl, h1, h3, h2, h4⟩
  refine (Hid.out hK) _ _ ((h2.block _ (blk_lt hS) HNB.out).trans hS) (fun hS2 => ?_)
  clear hK K hS
  have hS := hS2
  clear hS2
  (try simp only [Act.put]); (try simp only [List.setIfInBounds_toArray, List.set_cons_zero, List.set_cons_succ])
  have HF : Hid (LayP w B (.slice a n c) n ds (hl 6 42 ++ (hl 2 y.length ++ y)) (.returned v3) w3) := LayP.two HK2.out HA2.out rfl (by rw [← List.append_assoc]; exact h1) h2 h3 h4
  clear h1 h2 h3 h4
  refine heldTake 5 _ rfl (by kernel_rfl) (by kernel_rfl) (by kernel_rfl) (fun _ _ _ h => h) rfl hS (fun wy hy => by first | (go_simp; done) | (go_simp; rfl) | rfl) ?_
  (try simp only [Act.put]); (try simp only [List.setIfInBounds_toArray, List.set_cons_zero, List.set_cons_succ])
  refine heldDone (by kernel_rfl) ?_
  clear hS
  go_wp2_with fail
  go_ret
  exact HF.out
end
section
open Go.RowKit Go
set_option maxRecDepth 1000000 in
theorem sizeOf7_any (k : Nat) (hk : k < 9223372036854775808) (w : World) : Calls Tryz.prog 221 #[.int .i64 (k : Nat)] w fun e w' => e = .returned (.int .i64 (hsize k : Nat)) ∧ w' = w := by
  go_enter Tryz.func221, Tryz.ntmps221
  go_wp2_with fail
  refine (size_any k w (by omega)).mono ?_
  rintro e w1 ⟨rfl, hw1⟩
  have hw1 := hw1.symm
  subst hw1
  go_wp2_with fail
  go_ret
  exact ⟨rfl, rfl⟩
set_option maxRecDepth 1000000 in
theorem nullSize_any (w : World) : Calls Tryz.prog 229 #[.agg #[]] w fun e w' => e = .returned (.int .i64 ((1 : Nat) : Int)) ∧ Below w.heap.size w w' := by
  have HB := hide (below_alloc4 w (.cells #[] 204))
  go_enter Tryz.func229, Tryz.ntmps229
  go_wp2_with fail
  go_ret
  exact ⟨rfl, HB.out⟩
set_option maxRecDepth 1000000 in
theorem truthSize_any (b : Bool) (w : World) : Calls Tryz.prog 212 #[.bool b] w fun e w' => e = .returned (.int .i64 ((1 : Nat) : Int)) ∧ Below w.heap.size w w' := by
  go_enter Tryz.func212, Tryz.ntmps212
  go_wp2_with fail
  go_ret
  exact ⟨rfl, Below.refl _ _⟩
set_option maxRecDepth 1000000 in
theorem floatSize_any (b : Nat) (w : World) : Calls Tryz.prog 218 #[.int .u64 (b : Nat)] w fun e w' => e = .returned (.int .i64 ((9 : Nat) : Int)) ∧ Below w.heap.size w w' := by
  go_enter Tryz.func218, Tryz.ntmps218
  go_wp2_with fail
  go_ret
  exact ⟨rfl, Below.refl _ _⟩
set_option maxRecDepth 1000000 in
theorem wholeSize_any (g : Bool) (N : Nat) (hN : N < 18446744073709551616) (w : World) : Calls Tryz.prog 214 #[.agg #[.bool g, .int .u64 (N : Nat)]] w fun e w' => e = .returned (.int .i64 (hsize N : Nat)) ∧ Below w.heap.size w w' := by
  have HB := hide (below_alloc4 w (.cells #[.bool g, .int .u64 (N : Nat)] 195))
  have HSZ := hide (size_any N (w.alloc (.cells #[.bool g, .int .u64 (N : Nat)] 195)) hN)
  clear hN
  go_enter Tryz.func214, Tryz.ntmps214
  go_wp2_with fail
  refine HSZ.out.mono ?_
  rintro e w1 ⟨rfl, hw1⟩
  subst hw1
  go_wp2_with fail
  go_ret
  exact ⟨rfl, HB.out⟩
set_option maxRecDepth 1000000 in
theorem textSize_any (s : ByteArray) (hs : s.size ≤ 140737488351232) (w : World) : Calls Tryz.prog 220 #[.string s] w fun e w' => e = .returned (.int .i64 ((hsize s.size + s.size : Nat) : Int)) ∧ Below w.heap.size w w' := by
  have HSZ := hide (sizeOf7_any s.size (by omega) w)
  have hle := hsize_le7 s.size
  have e1 : IntKind.i64.wrap ((hsize s.size : Int) + (s.size : Int)) = ((hsize s.size + s.size : Nat) : Int) := by rw [IntKind.wrap_i64]; omega
  clear hle
  go_enter Tryz.func220, Tryz.ntmps220
  go_wp2_with fail
  refine HSZ.out.mono ?_
  rintro e w1 ⟨rfl, hw1⟩
  have hw1 := hw1.symm
  subst hw1
  go_wp2_with fail
  go_ret
  exact ⟨by simp, Below.refl _ _⟩
set_option maxRecDepth 1000000 in
theorem octetsSize_any (av : Option Addr) (k cv : Nat) (hk : k ≤ 140737488351232) (w : World) : Calls Tryz.prog 223 #[.slice av k cv] w fun e w' => e = .returned (.int .i64 ((hsize k + k : Nat) : Int)) ∧ w' = w := by
  have HSZ := hide (sizeOf7_any k (by omega) w)
  have hle := hsize_le7 k
  have e1 : IntKind.i64.wrap ((hsize k : Int) + (k : Int)) = ((hsize k + k : Nat) : Int) := by rw [IntKind.wrap_i64]; omega
  clear hle
  go_enter Tryz.func223, Tryz.ntmps223
  go_wp2_with fail
  refine HSZ.out.mono ?_
  rintro e w1 ⟨rfl, hw1⟩
  have hw1 := hw1.symm
  subst hw1
  go_wp2_with fail
  go_ret
  exact ⟨by simp, rfl⟩
set_option maxRecDepth 1000000 in
theorem listSize_any (av : Option Addr) (k cv : Nat) (hk : k ≤ 140737488351232) (w : World) : Calls Tryz.prog 225 #[.slice av k cv] w fun e w' => e = .returned (.int .i64 (hsize k : Nat)) ∧ Below w.heap.size w w' := by
  have HSZ := hide (sizeOf7_any k (by omega) w)
  go_enter Tryz.func225, Tryz.ntmps225
  go_wp2_with fail
  refine HSZ.out.mono ?_
  rintro e w1 ⟨rfl, hw1⟩
  have hw1 := hw1.symm
  subst hw1
  go_wp2_with fail
  go_ret
  exact ⟨rfl, Below.refl _ _⟩
set_option maxRecDepth 1000000 in
theorem entriesSize_any (ak : Option Addr) (k ck : Nat) (vi : Value) (hk : k ≤ 140737488351232) (w : World) : Calls Tryz.prog 227 #[.agg #[.slice ak k ck, vi]] w fun e w' => e = .returned (.int .i64 (hsize k : Nat)) ∧ Below w.heap.size w w' := by
  have HB := hide (below_alloc4 w (.cells #[.slice ak k ck, vi] 202))
  have HSZ := hide (sizeOf7_any k (by omega) (w.alloc (.cells #[.slice ak k ck, vi] 202)))
  go_enter Tryz.func227, Tryz.ntmps227
  go_wp2_with fail
  refine HSZ.out.mono ?_
  rintro e w1 ⟨rfl, hw1⟩
  subst hw1
  go_wp2_with fail
  go_ret
  exact ⟨rfl, HB.out⟩
set_option maxRecDepth 1000000 in
theorem nameSize_any (av : Option Addr) (k cv : Nat) (hk : k ≤ 140737488351232) (w : World) : Calls Tryz.prog 231 #[.agg #[.slice av k cv]] w fun e w' => e = .returned (.int .i64 ((hsize 42 + (hsize k + k) : Nat) : Int)) ∧ Below w.heap.size w w' := by
  have HB := hide (below_alloc4 w (.cells #[.slice av k cv] 226))
  have HK := hide hk
  have hle := hsize_le7 k
  have e1 : IntKind.i64.wrap ((hsize 42 : Int) + ((hsize k + k : Nat) : Int)) = ((hsize 42 + (hsize k + k) : Nat) : Int) := by rw [IntKind.wrap_i64]; have : hsize 42 = 2 := rfl; omega
  generalize hz : hsize k + k = z at *
  have HZ := hide hz
  generalize h42 : hsize 42 = z2 at *
  have H42 := hide h42
  have HC1 : Hid (∀ W, Calls Tryz.prog 221 #[.int .i64 42] W fun e w' => e = .returned (.int .i64 (z2 : Nat)) ∧ w' = W) := fun W => by rw [← H42.out]; exact sizeOf7_any 42 (by decide) W
  have HC2 : Hid (∀ W, Calls Tryz.prog 223 #[.slice av k cv] W fun e w' => e = .returned (.int .i64 (z : Nat)) ∧ w' = W) := fun W => by rw [← HZ.out]; exact octetsSize_any av k cv HK.out W
  clear hle hz h42 hk
  go_enter Tryz.func231, Tryz.ntmps231
  go_wp2_with fail
  go_quiet (first
    | (go_at_call 221; exact Calls.quiet_of_same (HC1.out _))
    | (go_at_call 223; exact Calls.quiet_of_same (HC2.out _)))
  go_wp2_with fail
  go_ret
  exact ⟨by simp, below_drewN HB.out _⟩
end
end Go.Proofs.YtadilnmkjcmnnaaGreatDoor
