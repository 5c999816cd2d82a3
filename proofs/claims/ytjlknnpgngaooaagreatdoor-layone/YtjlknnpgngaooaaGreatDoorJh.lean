import Derived.Test.YtjlknnpgngaooaaGreatDoorJd
import Derived.Test.YtjlknnpgngaooaaGreatDoorJc
import Derived.Test.YtjlknnpgngaooaaGreatDoorJa
import Derived.Test.YtjlknnpgngaooaaGreatDoorJe
import Derived.BigQuiet
import Derived.Test.YtjlknnpgngaooaaGreatDoorJf
namespace Go.Proofs.YtjlknnpgngaooaaGreatDoor
section
open Go.RowKit Go
/-! ### Appending to a row of the call's own: where the new one lies -/
/-- What laying tells: these bytes behind a row. -/
def LayP (w : World) (B : Nat) (v : Value) (n : Nat) (ds xs : List Nat) (e : Ending) (w' : World) : Prop :=
  ∃ v', e = .returned v' ∧ w'.ownsRow B 5 1 v' (n + xs.length) (bv (ds ++ xs)) ∧ v' ≠ .slice none 0 0 ∧ Kp (fun q => v.ownBlock = some q) w w' ∧ (v'.ownBlock = v.ownBlock ∨ ∀ q, v'.ownBlock = some q → w.heap.size ≤ q)
/-- Where the new row lies. -/
def At7 (w : World) (v v' : Value) : Prop := v'.ownBlock = v.ownBlock ∨ ∀ q, v'.ownBlock = some q → w.heap.size ≤ q
theorem append_tu {t u ty : TypeId} {e e' : TypeId} (ht : Tryz.prog.underlying t = some (.slice e)) (hu : Tryz.prog.underlying u = some (.slice e')) (b : Option Addr) (n c : Nat) (x : Value) (w : World) : (Builtin.append_ #[t, u] ty #[.slice b n c, x]).run Tryz.prog w = (Builtin.append_ #[t, t] ty #[.slice b n c, x]).run Tryz.prog w := by
  have h1 : ∀ w, (underlying t).run Tryz.prog w = .ok (.slice e) w := fun w => run_underlying ht w
  have h2 : ∀ w, (underlying u).run Tryz.prog w = .ok (.slice e') w := fun w => run_underlying hu w
  simp [Builtin.append_, Sem.run_bind, h1, h2]
theorem own_slice7 {w : World} {B e s n : Nat} {v : Value} {xs : List Value} (h : w.ownsRow B e s v n xs) : ∃ a c, v = .slice a n c := by
  rcases h.2 with ⟨e, h0⟩ | ⟨g, c, cur, e, _⟩
  · exact ⟨none, 0, by rw [e, h0]⟩
  · exact ⟨_, c, e⟩
theorem append_bytes {ops : Array Oper} {rest : List Oper} {o : Oper} {a : Act} {Q : Exit → Act → World → Prop} {w : World} (hgd : o.guard = none) (s x : Operand) (t u : TypeId)
    (ho : o.op = .call { callee := .builtin .append, args := #[s, x], argTypes := #[t, u] }) (ht : Tryz.prog.underlying t = some (.slice 5)) (hu : Tryz.prog.underlying u = some (.slice 5)) (B : Nat) (v : Value) (n : Nat) (ds : List Nat) (hs : a.eval s = v) (hown : w.ownsRow B 5 1 v n (bv ds)) (hnn : v ≠ .slice none 0 0)
    (uv : Value) (xs : List Nat) (hx : a.eval x = uv) (hsl : BSl w uv xs) (hlen : n + xs.length ≤ 140737488355328) (hbase : B ≤ w.heap.size)
    (h : ∀ v' w', w'.ownsRow B 5 1 v' (n + xs.length) (bv (ds ++ xs)) → w.grownBy w' v.ownBlock → v' ≠ .slice none 0 0 → At7 w v v' → wpList Tryz.prog ops Q rest (a.put o.dst v') w') : wpList Tryz.prog ops Q (o :: rest) a w := by
  obtain ⟨i5, hi, hz0, hz1, hz2⟩ := info5_ex
  obtain ⟨⟨ad, cap, rfl, hn, hc⟩, hmax, hb⟩ := id hsl
  refine wpList_plain hgd fun K hK => ?_
  cases ad with
  | none =>
    rcases hc with rfl | ⟨_, _, e, _⟩
    · have := hn.2 rfl
      subst this
      have hrun := run_append_owned_none (P := Tryz.prog) (w := w) B t o.type 5 i5 1 ht hi v n (bv ds) hown
      obtain ⟨av, cv, hvv⟩ := own_slice7 hown
      rw [hvv] at hrun hs
      rw [← append_tu ht hu] at hrun
      unfold Oper.wp
      simp only [List.length_nil] at hx
      simp [execOp, ho, resolve, invoke, builtin, hs, hx, hrun, Result.andThen]
      have h9 := h v w (by simpa using hown) ⟨rfl, rfl, rfl, Nat.le_refl _, fun _ _ _ => rfl⟩ hnn (.inl rfl)
      rw [hvv] at h9
      exact hK _ _ h9
    · cases e
  | some ad =>
    obtain ⟨v', w', hrun, r1, r2, r3, r4⟩ := run_append_own_at (P := Tryz.prog) w B t o.type 5 i5 (.int .u8 0) 1 1 ht hi hz0 hz1 hz2 rfl (by decide) v n (bv ds) hown ad xs.length cap (bv xs) (by simp [bv]) hsl.src.2 (bv_one xs) (by unfold maxLen; omega) (by omega) hbase
    obtain ⟨av, cv, hvv⟩ := own_slice7 hown
    rw [hvv] at hrun hs
    rw [← append_tu ht hu] at hrun
    unfold Oper.wp
    simp [execOp, ho, resolve, invoke, builtin, hs, hx, hrun, Result.andThen]
    refine hK _ _ (h v' w' (by rw [bv_app]; exact r1) r2 (fun e => hnn (r3.1 e).1) ?_)
    rcases r4 with e | e
    · exact .inl e
    · exact .inr (fun q hq => by rw [e] at hq; injection hq with hq; omega)
theorem strCells_bv (s : ByteArray) : Lib.strCells s = bv (sl s) := by
  unfold Lib.strCells bv sl
  simp
theorem append_text {ops : Array Oper} {rest : List Oper} {o : Oper} {a : Act} {Q : Exit → Act → World → Prop} {w : World} (hgd : o.guard = none) (s x : Operand) (t u : TypeId)
    (ho : o.op = .call { callee := .builtin .append, args := #[s, x], argTypes := #[t, u] }) (ht : Tryz.prog.underlying t = some (.slice 5)) (hu : Tryz.prog.underlying u = some .string) (B : Nat) (v : Value) (n : Nat) (ds : List Nat) (hs : a.eval s = v) (hown : w.ownsRow B 5 1 v n (bv ds)) (hnn : v ≠ .slice none 0 0)
    (str : ByteArray) (hx : a.eval x = .string str) (hlen : n + str.size ≤ 140737488355328) (hbase : B ≤ w.heap.size)
    (h : ∀ v' w', w'.ownsRow B 5 1 v' (n + str.size) (bv (ds ++ sl str)) → w.grownBy w' v.ownBlock → v' ≠ .slice none 0 0 → At7 w v v' → wpList Tryz.prog ops Q rest (a.put o.dst v') w') : wpList Tryz.prog ops Q (o :: rest) a w := by
  obtain ⟨i5, hi, hz0, hz1, hz2⟩ := info5_ex
  refine wpList_plain hgd fun K hK => ?_
  obtain ⟨v', w', hrun, r1, r2, r3⟩ := Lib.run_append_own_string (P := Tryz.prog) w B t u o.type 5 i5 ht hu hi hz0 hz1 hz2 v n (bv ds) hown str (by unfold maxLen; omega) hlen hbase
  have hat : v'.ownBlock = v.ownBlock ∨ ∀ q, v'.ownBlock = some q → w.heap.size ≤ q := by
    rcases hown.2 with ⟨e, _⟩ | ⟨g, cap, cur, rfl, hbg, hg, hnc, hcm, hcs, htake⟩
    · exact absurd e hnn
    · by_cases hroom : n + str.size ≤ cap
      · have hr := Lib.run_append_room_string (P := Tryz.prog) w t u o.type 5 i5 ht hu hi hz1 g n cap cur hg str hroom (by rw [hcs]; omega)
        rw [hrun] at hr
        injection hr with hr _
        rw [hr]
        exact .inl rfl
      · have holds : ∀ j x, (bv ds)[j]? = some x → w.cell? ((⟨g, 0, none⟩ : Addr).add j) = some x := hown.cells (g := g) rfl
        have hr := Lib.run_append_grow_string (P := Tryz.prog) w t u o.type 5 i5 (.int .u8 0) ht hu hi hz0 ⟨g, 0, none⟩ n cap (bv ds) (by rw [hz1]; exact hown.1) holds str (by omega) (by omega) (by rw [hz2]; exact growslice_fits (by omega) (by omega))
        rw [hrun] at hr
        injection hr with hr _
        rw [hr]
        exact .inr (fun q hq => Nat.le_of_eq (Option.some.inj hq))
  unfold Oper.wp
  simp [execOp, ho, resolve, invoke, builtin, hs, hx, hrun, Result.andThen]
  exact hK _ _ (h v' w' (by rw [bv_app, ← strCells_bv]; exact r1) r2 (fun e => hnn (r3.1 e).1) hat)
end
section
open Go.RowKit Go
theorem LayP.mk {w : World} {B : Nat} {v : Value} {n : Nat} {ds xs : List Nat} {w0 w' v' : _} {k : Nat} (hb : Below w.heap.size w w0) (hk : k = n + xs.length) (h1 : w'.ownsRow B 5 1 v' k (bv (ds ++ xs))) (h2 : w0.grownBy w' v.ownBlock) (h3 : v' ≠ .slice none 0 0) (h4 : v'.ownBlock = v.ownBlock ∨ ∀ q, v'.ownBlock = some q → w0.heap.size ≤ q) : LayP w B v n ds xs (.returned v') w' := by
  subst hk
  refine ⟨v', rfl, h1, h3, (Kp.of_below hb).grown h2 (fun _ _ e => e), ?_⟩
  rcases h4 with e | e
  · exact .inl e
  · exact .inr (fun q hq => Nat.le_trans hb.size (e q hq))
theorem LayP.step {w : World} {B : Nat} {v : Value} {n : Nat} {ds xs : List Nat} {w0 w' v' : _} (hb : Below w.heap.size w w0) (h1 : w'.ownsRow B 5 1 v' (n + xs.length) (bv (ds ++ xs))) (h2 : Kp (fun q => v.ownBlock = some q) w0 w') (h3 : v' ≠ .slice none 0 0) (h4 : v'.ownBlock = v.ownBlock ∨ ∀ q, v'.ownBlock = some q → w0.heap.size ≤ q) : LayP w B v n ds xs (.returned v') w' := by
  refine ⟨v', rfl, h1, h3, (Kp.of_below hb).trans h2 (fun _ _ e => e), ?_⟩
  rcases h4 with e | e
  · exact .inl e
  · exact .inr (fun q hq => Nat.le_trans hb.size (e q hq))
theorem hlay_hl (m n : Nat) (hm : m ≤ 7) : hlay (m : Int) n = hl m n := by
  unfold hlay
  rw [if_pos (by omega), Int.toNat_natCast]
theorem hl_byte7 (m n : Nat) (hm : m ≤ 7) : ∀ x ∈ hl m n, x < 256 := by
  intro x hx
  unfold hl at hx
  rcases List.mem_cons.1 hx with e | e
  · rcases hinfo_cases n with h | h | h | h | h <;> omega
  · exact be_byte _ _ x e
theorem hsize_le7 (n : Nat) : hsize n ≤ 9 := by
  unfold hsize
  have := hwide_le (hinfo n)
  omega
set_option maxRecDepth 1000000 in
theorem withHead_any (w : World) (B : Nat) (v : Value) (n : Nat) (ds : List Nat) (hown : w.ownsRow B 5 1 v n (bv ds)) (hnn : v ≠ .slice none 0 0) (hB : B ≤ w.heap.size) (hn : n ≤ 140737488350000) (m N : Nat) (hm : m ≤ 7) (hN : N < 18446744073709551616) :
    Calls Tryz.prog 202 #[v, .int .i64 (m : Nat), .int .u64 (N : Nat)] w (LayP w B v n ds (hl m N)) := by
  have HO := hide hown
  have HNN := hide hnn
  obtain ⟨a, c, hv⟩ := own_slice7 hown
  subst hv
  have HB := hide hB
  have HN := hide hn
  clear hown hnn hB hn
  go_enter Tryz.func202, Tryz.ntmps202
  go_wp2_with fail
  refine (lay_any (m : Int) N w (by omega) hN).mono ?_
  rintro e w1 ⟨v1, rfl, ho1, hb1⟩
  rw [hlay_hl m N hm] at ho1
  have HS1 := hide (BSl.own ho1 (hl_byte7 m N hm))
  have HO1 : Hid (w1.ownsRow B 5 1 (.slice a n c) n (bv ds)) := (Kp.of_below (S := fun _ => False) hb1).owns HO.out (fun _ _ h => h)
  have HB1 := hide hb1
  have HL : Hid (n + (hl m N).length ≤ 140737488355328) := by show _ ≤ _; rw [hl_len7]; have := hsize_le7 N; have := HN.out; omega
  clear ho1 hb1
  go_wp2_with (at_builtin; refine append_bytes rfl _ _ 23 23 rfl Tryz.underlying23 Tryz.underlying23 B _ n ds rfl HO1.out HNN.out _ (hl m N) rfl HS1.out HL.out (Nat.le_trans HB.out HB1.out.size) ?_)
  intro v2 w2 h1 h2 h3 h4
  have HF : Hid (LayP w B (.slice a n c) n ds (hl m N) (.returned v2) w2) := LayP.mk HB1.out rfl h1 h2 h3 h4
  clear h1 h2 h3 h4
  go_wp2_with fail
  go_ret
  exact HF.out
theorem lit1_bsl (w : World) (x : Nat) (z : Int) (hz : z = ((x : Nat) : Int)) (hx : x < 256) : Below w.heap.size w (w.alloc (.cells #[.int .u8 z] 5)) ∧ BSl (w.alloc (.cells #[.int .u8 z] 5)) (.slice (some ⟨w.heap.size, 0, none⟩) 1 1) [x] := by
  subst hz
  exact ⟨below_alloc4 w _, one_bsl w x hx⟩
set_option maxRecDepth 1000000 in
theorem nullLay_any (w : World) (B : Nat) (v : Value) (n : Nat) (ds : List Nat) (hown : w.ownsRow B 5 1 v n (bv ds)) (hnn : v ≠ .slice none 0 0) (hB : B ≤ w.heap.size) (hn : n ≤ 140737488350000) :
    Calls Tryz.prog 215 #[.agg #[], v] w (LayP w B v n ds [246]) := by
  have HO := hide hown
  have HNN := hide hnn
  obtain ⟨a, c, hv⟩ := own_slice7 hown
  subst hv
  have HB := hide hB
  have HN := hide hn
  clear hown hnn hB hn
  have hb0 : Below w.heap.size w (w.alloc (.cells #[] 131)) := below_alloc4 w _
  have hl1 := lit1_bsl (w.alloc (.cells #[] 131)) 246 246 rfl (by decide)
  have hsz : (w.alloc (.cells #[] 131)).heap.size = w.heap.size + 1 := by simp
  have HB1 : Hid (Below w.heap.size w ((w.alloc (.cells #[] 131)).alloc (.cells #[.int .u8 246] 5))) := hb0.trans (hl1.1.mono hb0.size)
  have HS1 : Hid (BSl ((w.alloc (.cells #[] 131)).alloc (.cells #[.int .u8 246] 5)) (.slice (some ⟨w.heap.size + 1, 0, none⟩) 1 1) [246]) := by have h := hl1.2; rw [hsz] at h; exact h
  have HO1 : Hid (((w.alloc (.cells #[] 131)).alloc (.cells #[.int .u8 246] 5)).ownsRow B 5 1 (.slice a n c) n (bv ds)) := (Kp.of_below (S := fun _ => False) HB1.out).owns HO.out (fun _ _ h => h)
  clear hb0 hl1 hsz
  go_enter Tryz.func215, Tryz.ntmps215
  go_wp2_with (at_builtin; refine append_bytes rfl _ _ 23 23 rfl Tryz.underlying23 Tryz.underlying23 B _ n ds rfl HO1.out HNN.out _ [246] rfl HS1.out (by have := HN.out; show n + 1 ≤ _; omega) (Nat.le_trans HB.out HB1.out.size) ?_)
  intro v2 w2 h1 h2 h3 h4
  have HF : Hid (LayP w B (.slice a n c) n ds [246] (.returned v2) w2) := LayP.mk HB1.out rfl h1 h2 h3 h4
  clear h1 h2 h3 h4
  go_wp2_with fail
  go_ret
  exact HF.out
set_option maxRecDepth 1000000 in
theorem trueLay_any (w : World) (B : Nat) (v : Value) (n : Nat) (ds : List Nat) (hown : w.ownsRow B 5 1 v n (bv ds)) (hnn : v ≠ .slice none 0 0) (hB : B ≤ w.heap.size) (hn : n ≤ 140737488350000) :
    Calls Tryz.prog 198 #[.bool true, v] w (LayP w B v n ds [245]) := by
  have HO := hide hown
  have HNN := hide hnn
  obtain ⟨a, c, hv⟩ := own_slice7 hown
  subst hv
  have HB := hide hB
  have HN := hide hn
  clear hown hnn hB hn
  have hb0 : Below w.heap.size w w := Below.refl _ _
  have hl1 := lit1_bsl w 245 245 rfl (by decide)
  have HB1 : Hid (Below w.heap.size w (w.alloc (.cells #[.int .u8 245] 5))) := hb0.trans (hl1.1.mono hb0.size)
  have HS1 := hide hl1.2
  have HO1 : Hid ((w.alloc (.cells #[.int .u8 245] 5)).ownsRow B 5 1 (.slice a n c) n (bv ds)) := (Kp.of_below (S := fun _ => False) HB1.out).owns HO.out (fun _ _ h => h)
  clear hb0 hl1
  go_enter Tryz.func198, Tryz.ntmps198
  go_wp2_with (at_builtin; refine append_bytes rfl _ _ 23 23 rfl Tryz.underlying23 Tryz.underlying23 B _ n ds rfl HO1.out HNN.out _ [245] rfl HS1.out (by have := HN.out; show n + 1 ≤ _; omega) (Nat.le_trans HB.out HB1.out.size) ?_)
  intro v2 w2 h1 h2 h3 h4
  have HF : Hid (LayP w B (.slice a n c) n ds [245] (.returned v2) w2) := LayP.mk HB1.out rfl h1 h2 h3 h4
  clear h1 h2 h3 h4
  go_wp2_with fail
  go_ret
  exact HF.out
set_option maxRecDepth 1000000 in
theorem falseLay_any (w : World) (B : Nat) (v : Value) (n : Nat) (ds : List Nat) (hown : w.ownsRow B 5 1 v n (bv ds)) (hnn : v ≠ .slice none 0 0) (hB : B ≤ w.heap.size) (hn : n ≤ 140737488350000) :
    Calls Tryz.prog 198 #[.bool false, v] w (LayP w B v n ds [244]) := by
  have HO := hide hown
  have HNN := hide hnn
  obtain ⟨a, c, hv⟩ := own_slice7 hown
  subst hv
  have HB := hide hB
  have HN := hide hn
  clear hown hnn hB hn
  have hb0 : Below w.heap.size w w := Below.refl _ _
  have hl1 := lit1_bsl w 244 244 rfl (by decide)
  have HB1 : Hid (Below w.heap.size w (w.alloc (.cells #[.int .u8 244] 5))) := hb0.trans (hl1.1.mono hb0.size)
  have HS1 := hide hl1.2
  have HO1 : Hid ((w.alloc (.cells #[.int .u8 244] 5)).ownsRow B 5 1 (.slice a n c) n (bv ds)) := (Kp.of_below (S := fun _ => False) HB1.out).owns HO.out (fun _ _ h => h)
  clear hb0 hl1
  go_enter Tryz.func198, Tryz.ntmps198
  go_wp2_with (at_builtin; refine append_bytes rfl _ _ 23 23 rfl Tryz.underlying23 Tryz.underlying23 B _ n ds rfl HO1.out HNN.out _ [244] rfl HS1.out (by have := HN.out; show n + 1 ≤ _; omega) (Nat.le_trans HB.out HB1.out.size) ?_)
  intro v2 w2 h1 h2 h3 h4
  have HF : Hid (LayP w B (.slice a n c) n ds [244] (.returned v2) w2) := LayP.mk HB1.out rfl h1 h2 h3 h4
  clear h1 h2 h3 h4
  go_wp2_with fail
  go_ret
  exact HF.out
set_option maxRecDepth 1000000 in
theorem wholeLay_any (w : World) (B : Nat) (v : Value) (n : Nat) (ds : List Nat) (hown : w.ownsRow B 5 1 v n (bv ds)) (hnn : v ≠ .slice none 0 0) (hB : B ≤ w.heap.size) (hn : n ≤ 140737488350000) (g : Bool) (N : Nat) (hN : N < 18446744073709551616) :
    Calls Tryz.prog 200 #[.agg #[.bool g, .int .u64 (N : Nat)], v] w (LayP w B v n ds (hl (if g = true then 1 else 0) N)) := by
  have HO := hide hown
  have HNN := hide hnn
  obtain ⟨a, c, hv⟩ := own_slice7 hown
  subst hv
  have HB := hide hB
  have HN := hide hn
  clear hown hnn hB hn
  have hb0 := below_alloc4 w (.cells #[.bool g, .int .u64 (N : Nat)] 122)
  have HB1 := hide hb0
  have HO1 : Hid ((w.alloc (.cells #[.bool g, .int .u64 (N : Nat)] 122)).ownsRow B 5 1 (.slice a n c) n (bv ds)) := (Kp.of_below (S := fun _ => False) hb0).owns HO.out (fun _ _ h => h)
  have HFN : Hid (∀ m : Nat, m ≤ 7 → Calls Tryz.prog 202 #[.slice a n c, .int .i64 (m : Nat), .int .u64 (N : Nat)] (w.alloc (.cells #[.bool g, .int .u64 (N : Nat)] 122)) (LayP (w.alloc (.cells #[.bool g, .int .u64 (N : Nat)] 122)) B (.slice a n c) n ds (hl m N))) := fun m hm => withHead_any _ B _ n ds HO1.out HNN.out (Nat.le_trans HB.out hb0.size) HN.out m N hm hN
  clear hb0
  cases g with
  | true =>
    go_enter Tryz.func200, Tryz.ntmps200
    go_wp2_with fail
    refine (HFN.out 1 (by decide)).mono ?_
    rintro e w2 ⟨v2, rfl, h1, h3, h2, h4⟩
    have HF : Hid (LayP w B (.slice a n c) n ds (hl 1 N) (.returned v2) w2) := LayP.step HB1.out h1 h2 h3 h4
    clear h1 h2 h3 h4
    go_wp2_with fail
    go_ret
    exact HF.out
  | false =>
    go_enter Tryz.func200, Tryz.ntmps200
    go_wp2_with fail
    refine (HFN.out 0 (by decide)).mono ?_
    rintro e w2 ⟨v2, rfl, h1, h3, h2, h4⟩
    have HF : Hid (LayP w B (.slice a n c) n ds (hl 0 N) (.returned v2) w2) := LayP.step HB1.out h1 h2 h3 h4
    clear h1 h2 h3 h4
    go_wp2_with fail
    go_ret
    exact HF.out
end
section
open Go.RowKit Go
theorem LayP.two {w : World} {B : Nat} {v : Value} {n k : Nat} {ds xs ys : List Nat} {w1 w2 : World} {v2 v3 : Value} (hk : Kp (fun q => v.ownBlock = some q) w w1) (ha : At7 w v v2) (h0 : k = n + xs.length + ys.length) (h1 : w2.ownsRow B 5 1 v3 k (bv (ds ++ (xs ++ ys)))) (h2 : Kp (fun q => v2.ownBlock = some q) w1 w2) (h3 : v3 ≠ .slice none 0 0) (h4 : At7 w1 v2 v3) : LayP w B v n ds (xs ++ ys) (.returned v3) w2 := by
  subst h0
  refine ⟨v3, rfl, by rw [List.length_append, ← Nat.add_assoc]; exact h1, h3, hk.trans h2 (fun q hq e => ?_), ?_⟩
  · rcases ha with e2 | e2
    · rw [← e2]; exact e
    · have := e2 q e
      omega
  · rcases h4 with e | e
    · rcases ha with e2 | e2
      · exact .inl (e.trans e2)
      · exact .inr (fun q hq => e2 q (by rw [← e]; exact hq))
    · exact .inr (fun q hq => Nat.le_trans hk.size (e q hq))
theorem kp_grown {w1 w2 : World} {v2 : Value} (h : w1.grownBy w2 v2.ownBlock) : Kp (fun q => v2.ownBlock = some q) w1 w2 := (Kp.refl _ _).grown h (fun _ _ e => e)
set_option maxRecDepth 1000000 in
theorem textLay_any (w : World) (B : Nat) (v : Value) (n : Nat) (ds : List Nat) (hown : w.ownsRow B 5 1 v n (bv ds)) (hnn : v ≠ .slice none 0 0) (hB : B ≤ w.heap.size) (hn : n ≤ 140737488350000) (s : ByteArray) (hs : n + s.size ≤ 140737488350000) :
    Calls Tryz.prog 206 #[.string s, v] w (LayP w B v n ds (kfm s)) := by
  have HSZ := hide hs
  have hs2 : s.size < 9223372036854775808 := by omega
  have HO := hide hown
  have HNN := hide hnn
  obtain ⟨a, c, hv⟩ := own_slice7 hown
  subst hv
  have HB := hide hB
  have HN := hide hn
  clear hown hnn hB hn
  have HWH := hide (withHead_any w B _ n ds HO.out HNN.out HB.out HN.out 3 s.size (by decide) (by omega))
  clear hs
  go_enter Tryz.func206, Tryz.ntmps206
  go_wp2_with fail
  refine HWH.out.mono ?_
  rintro e w1 ⟨v2, rfl, h1, h3, h2, h4⟩
  have HO1 := hide h1
  have HNN1 := hide h3
  have HKP := hide h2
  have HAT : Hid (At7 w (.slice a n c) v2) := h4
  have HB1 : Hid (B ≤ w1.heap.size) := Nat.le_trans HB.out h2.size
  have HLN : Hid (n + (hl 3 s.size).length + s.size ≤ 140737488355328) := by show _ ≤ _; rw [hl_len7]; have := hsize_le7 s.size; have := HSZ.out; omega
  clear h1 h2 h3 h4 HWH
  go_wp2_with (at_builtin; refine append_text rfl _ _ 23 124 rfl Tryz.underlying23 Tryz.underlying124 B _ (n + (hl 3 s.size).length) (ds ++ hl 3 s.size) rfl HO1.out HNN1.out s rfl HLN.out HB1.out ?_)
  intro v3 w2 h1 h2 h3 h4
  have HF : Hid (LayP w B (.slice a n c) n ds (kfm s) (.returned v3) w2) := by
    show LayP w B _ n ds _ _ _
    unfold kfm
    rw [sl_len7]
    exact LayP.two HKP.out HAT.out (by rw [sl_len7]) h1 (kp_grown h2) h3 h4
  clear h1 h2 h3 h4
  go_wp2_with fail
  go_ret
  exact HF.out
theorem bsl_kp7 {w w' : World} {vb v : Value} {y : List Nat} (h : BSl w vb y) (hv : y ≠ [] → ∀ q, vb.ownBlock = some q → v.ownBlock ≠ some q) (hk : Kp (fun q => v.ownBlock = some q) w w') : BSl w' vb y := by
  by_cases e : y = []
  · rw [e] at h ⊢
    exact bsl_nil6 h
  · exact hk.bsl h (hv e)
set_option maxRecDepth 1000000 in
theorem octetsLay_any (w : World) (B : Nat) (v : Value) (n : Nat) (ds : List Nat) (hown : w.ownsRow B 5 1 v n (bv ds)) (hnn : v ≠ .slice none 0 0) (hB : B ≤ w.heap.size) (hn : n ≤ 140737488350000) (vb : Value) (y : List Nat) (hy : BSl w vb y) (hyv : y ≠ [] → ∀ q, vb.ownBlock = some q → v.ownBlock ≠ some q) (hs : n + y.length ≤ 140737488350000) :
    Calls Tryz.prog 209 #[vb, v] w (LayP w B v n ds (hl 2 y.length ++ y)) := by
  have HSZ := hide hs
  have HY := hide hy
  have HYV := hide hyv
  have hs2 : y.length < 9223372036854775808 := by omega
  have HO := hide hown
  have HNN := hide hnn
  obtain ⟨a, c, hv⟩ := own_slice7 hown
  subst hv
  have HB := hide hB
  have HN := hide hn
  clear hown hnn hB hn
  obtain ⟨⟨ab, cb, hvb, _, _⟩, _, _⟩ := hy
  subst hvb
  have HWH := hide (withHead_any w B _ n ds HO.out HNN.out HB.out HN.out 2 y.length (by decide) (by omega))
  clear hs hyv
  go_enter Tryz.func209, Tryz.ntmps209
  go_wp2_with fail
  refine HWH.out.mono ?_
  rintro e w1 ⟨v2, rfl, h1, h3, h2, h4⟩
  have HO1 := hide h1
  have HNN1 := hide h3
  have HKP := hide h2
  have HAT : Hid (At7 w (.slice a n c) v2) := h4
  have HB1 : Hid (B ≤ w1.heap.size) := Nat.le_trans HB.out h2.size
  have HLN : Hid (n + (hl 2 y.length).length + y.length ≤ 140737488355328) := by show _ ≤ _; rw [hl_len7]; have := hsize_le7 y.length; have := HSZ.out; omega
  have HY1 := hide (bsl_kp7 HY.out HYV.out h2)
  clear h1 h2 h3 h4 HWH
  go_wp2_with (at_builtin; refine append_bytes rfl _ _ 23 125 rfl Tryz.underlying23 Tryz.underlying125 B _ (n + (hl 2 y.length).length) (ds ++ hl 2 y.length) rfl HO1.out HNN1.out _ y rfl HY1.out HLN.out HB1.out ?_)
  intro v3 w2 h1 h2 h3 h4
  have HF : Hid (LayP w B (.slice a n c) n ds (hl 2 y.length ++ y) (.returned v3) w2) := LayP.two HKP.out HAT.out rfl h1 (kp_grown h2) h3 h4
  clear h1 h2 h3 h4
  go_wp2_with fail
  go_ret
  exact HF.out
set_option maxRecDepth 1000000 in
theorem listLay_any (w : World) (B : Nat) (v : Value) (n : Nat) (ds : List Nat) (hown : w.ownsRow B 5 1 v n (bv ds)) (hnn : v ≠ .slice none 0 0) (hB : B ≤ w.heap.size) (hn : n ≤ 140737488350000) (ai : Option Addr) (k ci : Nat) (hk : k ≤ 140737488351232) :
    Calls Tryz.prog 211 #[.slice ai k ci, v] w (LayP w B v n ds (hl 4 k)) := by
  have HO := hide hown
  have HNN := hide hnn
  obtain ⟨a, c, hv⟩ := own_slice7 hown
  subst hv
  have HB := hide hB
  have HN := hide hn
  clear hown hnn hB hn
  have HWH := hide (withHead_any w B _ n ds HO.out HNN.out HB.out HN.out 4 k (by decide) (by omega))
  go_enter Tryz.func211, Tryz.ntmps211
  go_wp2_with fail
  refine HWH.out.mono ?_
  rintro e w1 ⟨v2, rfl, h1, h3, h2, h4⟩
  have HF : Hid (LayP w B (.slice a n c) n ds (hl 4 k) (.returned v2) w1) := ⟨v2, rfl, h1, h3, h2, h4⟩
  clear h1 h2 h3 h4 HWH
  go_wp2_with fail
  go_ret
  exact HF.out
set_option maxRecDepth 1000000 in
theorem entriesLay_any (w : World) (B : Nat) (v : Value) (n : Nat) (ds : List Nat) (hown : w.ownsRow B 5 1 v n (bv ds)) (hnn : v ≠ .slice none 0 0) (hB : B ≤ w.heap.size) (hn : n ≤ 140737488350000) (ak : Option Addr) (k ck : Nat) (vi : Value) (hk : k ≤ 140737488351232) :
    Calls Tryz.prog 213 #[.agg #[.slice ak k ck, vi], v] w (LayP w B v n ds (hl 5 k)) := by
  have HO := hide hown
  have HNN := hide hnn
  obtain ⟨a, c, hv⟩ := own_slice7 hown
  subst hv
  have HB := hide hB
  have HN := hide hn
  clear hown hnn hB hn
  have hb0 := below_alloc4 w (.cells #[.slice ak k ck, vi] 129)
  have HB1 := hide hb0
  have HWH := hide (withHead_any (w.alloc (.cells #[.slice ak k ck, vi] 129)) B _ n ds ((Kp.of_below (S := fun _ => False) hb0).owns HO.out (fun _ _ h => h)) HNN.out (Nat.le_trans HB.out hb0.size) HN.out 5 k (by decide) (by omega))
  clear hb0
  go_enter Tryz.func213, Tryz.ntmps213
  go_wp2_with fail
  refine HWH.out.mono ?_
  rintro e w1 ⟨v2, rfl, h1, h3, h2, h4⟩
  have HF : Hid (LayP w B (.slice a n c) n ds (hl 5 k) (.returned v2) w1) := LayP.step HB1.out h1 h2 h3 h4
  clear h1 h2 h3 h4 HWH
  go_wp2_with fail
  go_ret
  exact HF.out
end
section
open Go.RowKit Go
theorem LayP.out {w w' : World} {B : Nat} {v v2 : Value} {n : Nat} {ds xs : List Nat} (h : LayP w B v n ds xs (.returned v2) w') : w'.ownsRow B 5 1 v2 (n + xs.length) (bv (ds ++ xs)) ∧ v2 ≠ .slice none 0 0 ∧ Kp (fun q => v.ownBlock = some q) w w' ∧ At7 w v v2 := by
  obtain ⟨v', e, h1, h2, h3, h4⟩ := h
  injection e with e
  subst e
  exact ⟨h1, h2, h3, h4⟩
set_option maxRecDepth 1000000 in
set_option maxHeartbeats 1000000 in
theorem floatLay_any (w : World) (B : Nat) (v : Value) (n : Nat) (ds : List Nat) (hown : w.ownsRow B 5 1 v n (bv ds)) (hnn : v ≠ .slice none 0 0) (hB : B ≤ w.heap.size) (hn : n ≤ 140737488350000) (b : Nat) (hb : b < 18446744073709551616) :
    Calls Tryz.prog 204 #[.int .u64 (b : Nat), v] w (LayP w B v n ds (251 :: be 8 b)) := by
  have HBB := hide hb
  have HO := hide hown
  have HNN := hide hnn
  obtain ⟨a, c, hv⟩ := own_slice7 hown
  subst hv
  have HB := hide hB
  have HN := hide hn
  clear hown hnn hB hn
  have hl1 := lit1_bsl w 251 251 rfl (by decide)
  have HB1 := hide hl1.1
  have HS1 := hide hl1.2
  have HO1 : Hid ((w.alloc (.cells #[.int .u8 251] 5)).ownsRow B 5 1 (.slice a n c) n (bv ds)) := (Kp.of_below (S := fun _ => False) HB1.out).owns HO.out (fun _ _ h => h)
  clear hl1 hb
  go_enter Tryz.func204, Tryz.ntmps204
  go_wp2_with (at_builtin; refine append_bytes rfl _ _ 23 23 rfl Tryz.underlying23 Tryz.underlying23 B _ n ds rfl HO1.out HNN.out _ [251] rfl HS1.out (by have := HN.out; show n + 1 ≤ _; omega) (Nat.le_trans HB.out HB1.out.size) ?_)
  intro v2 w2 h1 h2 h3 h4
  have HF : Hid (LayP w B (.slice a n c) n ds [251] (.returned v2) w2) := LayP.mk HB1.out rfl h1 h2 h3 h4
  clear h1 h2 h3 h4
  go_wp2_with fail
  go_loopw [1, 9] (fun bb q wr => ∃ (k : Nat) (L : List Nat), k ≤ 8 ∧ q = .int .i64 (k : Nat) ∧ Hid (L = 251 :: (be 8 b).take k) ∧ Hid (LayP w B (.slice a n c) n ds L (.returned bb) wr)) (fun _ q _ => 8 - (intOf q).toNat)
  case atStart => exact ⟨0, [251], by omega, rfl, hide rfl, HF⟩
  case round =>
    rename World => wr
    obtain ⟨k, L, hk, rfl, HLL, HL⟩ := hrel
    clear HF
    by_cases hlt : k < 8
    · have hlt' : (k : Int) < 8 := by omega
      have e7 : IntKind.i64.wrap (7 - (k : Int)) = ((7 - k : Nat) : Int) := by rw [IntKind.wrap_i64]; omega
      have HTK : Hid ((be 8 b).take (k + 1) = (be 8 b).take k ++ [b / 256 ^ (7 - k) % 256]) := by
        show _ = _
        rw [show 7 - k = 8 - 1 - k by omega, ← be_get 8 b k hlt]
        exact take_snoc _ _ (by rw [be_len]; exact hlt)
      have hq8 : 7 - k < 8 := by omega
      have HK := hide hk
      have HLT := hide hlt
      clear hk hlt
      generalize 7 - k = q at *
      have hc : ((b / 256 ^ q % 256 : Nat) : Int) = (b : Int) / 2 ^ (8 * q) % 256 := by rw [pow_int8]; omega
      have hl2 := lit1_bsl wr (b / 256 ^ q % 256) ((b : Int) / 2 ^ (8 * q) % 256) hc.symm (Nat.mod_lt _ (by decide))
      obtain ⟨o1, o2, o3, o4⟩ := HL.out.out
      obtain ⟨ar, cr, hvr⟩ := own_slice7 o1
      subst hvr
      have HBR := hide hl2.1
      have HSR := hide hl2.2
      have HOR : Hid ((wr.alloc (.cells #[.int .u8 ((b : Int) / 2 ^ (8 * q) % 256)] 5)).ownsRow B 5 1 (.slice ar (n + L.length) cr) (n + L.length) (bv (ds ++ L))) := (Kp.of_below (S := fun _ => False) HBR.out).owns o1 (fun _ _ h => h)
      have HNR := hide o2
      have HKR : Hid (Kp (fun q => (Value.slice a n c).ownBlock = some q) w (wr.alloc (.cells #[.int .u8 ((b : Int) / 2 ^ (8 * q) % 256)] 5))) := o3.trans (Kp.of_below (S := fun q => (Value.slice a n c).ownBlock = some q) HBR.out) (fun _ _ e => e)
      have HAR := hide o4
      have HBz : Hid (B ≤ (wr.alloc (.cells #[.int .u8 ((b : Int) / 2 ^ (8 * q) % 256)] 5)).heap.size) := Nat.le_trans HB.out (Nat.le_trans o3.size HBR.out.size)
      have HLZ : Hid (n + L.length + 1 ≤ 140737488355328) := by show _ ≤ _; rw [HLL.out, List.length_cons, List.length_take]; have := HN.out; have := HLT.out; omega
      have e8 : IntKind.i64.wrap (8 * (q : Int)) = 8 * (q : Int) := by rw [IntKind.wrap_i64]; omega
      clear hl2 o1 o2 o3 o4 hc
      go_wp2_with (at_builtin; refine append_bytes rfl _ _ 23 23 rfl Tryz.underlying23 Tryz.underlying23 B _ (n + L.length) (ds ++ L) rfl HOR.out HNR.out _ [b / 256 ^ q % 256] rfl HSR.out HLZ.out HBz.out ?_)
      intro v3 w3 h1 h2 h3 h4
      have HF3 : Hid (LayP w B (.slice a n c) n ds (L ++ [b / 256 ^ q % 256]) (.returned v3) w3) := LayP.two HKR.out HAR.out rfl (by simpa using h1) (kp_grown h2) h3 h4
      have HL3 : Hid (L ++ [b / 256 ^ q % 256] = 251 :: (be 8 b).take (k + 1)) := by show _ = _; rw [HTK.out, HLL.out]; rfl
      clear h1 h2 h3 h4 HOR HNR HKR HAR HBz HLZ HBR HSR
      go_wp2_with fail
      go_roundw
      case rel => exact ⟨k + 1, _, by have := HLT.out; omega, by go_num, HL3, HF3⟩
      case measure => have := HLT.out; simp [intOf]; omega
    · have hlt' : ¬ (k : Int) < 8 := by omega
      have HE : Hid (LayP w B (.slice a n c) n ds (251 :: be 8 b) (.returned u1) wr) := by
        have h := HL.out
        rw [HLL.out, show k = 8 by omega, List.take_of_length_le (by rw [be_len]; exact Nat.le_refl _)] at h
        exact h
      clear hlt
      go_wp2_with fail
      go_ret
      exact HE.out
end
section
open Go.RowKit Go
set_option maxRecDepth 1000000 in
set_option maxHeartbeats 1000000 in
theorem nameLay_any (w : World) (B : Nat) (v : Value) (n : Nat) (ds : List Nat) (hown : w.ownsRow B 5 1 v n (bv ds)) (hnn : v ≠ .slice none 0 0) (hB : B ≤ w.heap.size) (hn : n ≤ 140737488350000) (vb : Value) (y : List Nat) (hy : BSl w vb y) (hy0 : y ≠ []) (hyv : ∀ q, vb.ownBlock = some q → v.ownBlock ≠ some q) (hs : n + 10 + y.length ≤ 140737488350000) :
    Calls Tryz.prog 217 #[.agg #[vb], v] w (LayP w B v n ds (hl 6 42 ++ (hl 2 y.length ++ y))) := by
  have HSZ := hide hs
  have HY := hide hy
  have HYV := hide hyv
  have HO := hide hown
  have HNN := hide hnn
  obtain ⟨a, c, hv⟩ := own_slice7 hown
  subst hv
  have HB := hide hB
  have HN := hide hn
  clear hown hnn hB hn
  obtain ⟨⟨ab, cb, hvb, _, _⟩, _, _⟩ := hy
  subst hvb
  have hb0 := below_alloc4 w (.cells #[.slice ab y.length cb] 193)
  have HB0 := hide hb0
  have HG0 := hide (heap_alloc_new w (.cells #[.slice ab y.length cb] 193))
  have HVL : Hid (∀ q, (Value.slice a n c).ownBlock = some q → q < w.heap.size) := fun q hq => (HO.out.lt q hq).2
  clear hs hyv hb0
  go_enter Tryz.func217, Tryz.ntmps217
  go_upto_region 1 with fail
  generalize w.alloc (.cells #[.slice ab y.length cb] 193) = w0 at *
  have HO0 : Hid (w0.ownsRow B 5 1 (.slice a n c) n (bv ds)) := (Kp.of_below (S := fun _ => False) HB0.out).owns HO.out (fun _ _ h => h)
  have HBz : Hid (B ≤ w0.heap.size) := Nat.le_trans HB.out HB0.out.size
  refine heldStart (S := fun wy => wy.heap[w.heap.size]? = some (.cells #[.slice ab y.length cb] 193 (0, 0))) (by kernel_rfl) ?_
  have hS : w0.drew.heap[w.heap.size]? = some (.cells #[.slice ab y.length cb] 193 (0, 0)) := HG0.out
  refine heldTake 0 _ rfl (by kernel_rfl) (by kernel_rfl) (by kernel_rfl) (fun _ _ _ h => h) rfl hS (fun wy hy => by first | (go_simp; done) | (go_simp; rfl) | rfl) ?_
  (try simp only [Act.put]); (try simp only [List.setIfInBounds_toArray, List.set_cons_zero, List.set_cons_succ])
  refine heldTake 1 _ rfl (by kernel_rfl) (by kernel_rfl) (by kernel_rfl) (fun _ _ _ h => h) rfl hS (fun wy hy => by have h0 := blk_cell (j := 0) (v := .slice ab y.length cb) hy rfl; first | (go_simp; done) | (go_simp; rfl) | rfl) ?_
  (try simp only [Act.put]); (try simp only [List.setIfInBounds_toArray, List.set_cons_zero, List.set_cons_succ])
  refine heldTake 2 _ rfl (by kernel_rfl) (by kernel_rfl) (by kernel_rfl) (fun _ _ _ h => h) rfl hS (fun wy hy => by first | (go_simp; done) | (go_simp; rfl) | rfl) ?_
  (try simp only [Act.put]); (try simp only [List.setIfInBounds_toArray, List.set_cons_zero, List.set_cons_succ])
  refine heldStep 3 rfl (by kernel_rfl) (fun K hK => ?_)
  go_simp
  refine (withHead_any w0.drew B _ n ds ((Kp.of_below (S := fun _ => False) (by refine Below.drew ?_; exact Below.refl _ _ : Below w0.heap.size w0 w0.drew)).owns HO0.out (fun _ _ h => h)) HNN.out HBz.out HN.out 6 42 (by decide) (by decide)).mono ?_
  rintro e w2 ⟨v2, rfl, h1, h3, h2, h4⟩
  have hkw : Kp (fun q => (Value.slice a n c).ownBlock = some q) w w2 := ((Kp.of_below (S := fun q => (Value.slice a n c).ownBlock = some q) HB0.out).drew).trans h2 (fun _ _ e => e)
  have haw : At7 w (.slice a n c) v2 := by
    rcases h4 with e | e
    · exact .inl e
    · exact .inr (fun q hq => Nat.le_trans HB0.out.size (e q hq))
  have HNB : Hid (v2.ownBlock ≠ some w.heap.size) := fun e => by
    rcases h4 with e2 | e2
    · exact Nat.lt_irrefl _ (HVL.out _ (e2.symm.trans e))
    · have h6 := e2 _ e
      have h7 := blk_lt HG0.out
      exact Nat.lt_irrefl _ (Nat.lt_of_lt_of_le h7 h6)
  refine (Hid.out hK) _ _ ((h2.block _ (blk_lt HG0.out) (fun e => Nat.lt_irrefl _ (HVL.out _ e))).trans HG0.out) (fun hS2 => ?_)
  clear hK K hS
  have hS := hS2
  clear hS2
  (try simp only [Act.put]); (try simp only [List.setIfInBounds_toArray, List.set_cons_zero, List.set_cons_succ])
  have HO2 := hide h1
  have HN2 := hide h3
  have HK2 := hide hkw
  have HA2 := hide haw
  have HL6 : Hid ((hl 6 42).length = 2) := rfl
  clear h1 h2 h3 h4 hkw haw
  obtain ⟨a2, c2, hv2⟩ := own_slice7 HO2.out
  subst hv2
  have HY2 := hide (HK2.out.bsl HY.out (fun k hk e => HYV.out k hk e))
  have HYV2 : Hid (∀ q, (Value.slice ab y.length cb).ownBlock = some q → (Value.slice a2 (n + (hl 6 42).length) c2).ownBlock ≠ some q) := fun q hq e => by
    rcases HA2.out with e2 | e2
    · exact HYV.out q hq (e2.symm.trans e)
    · have h5 := own_lt HY.out hy0 hq
      have := e2 q e
      omega
  have HB2 : Hid (B ≤ w2.heap.size) := Nat.le_trans HB.out HK2.out.size
  refine heldStep 4 rfl (by kernel_rfl) (fun K hK => ?_)
  go_simp
  refine (octetsLay_any w2 B _ (n + (hl 6 42).length) (ds ++ hl 6 42) HO2.out HN2.out HB2.out (by have := HSZ.out; have := HL6.out; omega) _ y HY2.out (fun _ => HYV2.out) (by have := HSZ.out; have := HL6.out; omega)).mono ?_
  rintro e w3 ⟨v3, rfl, h1, h3, h2, h4⟩
  refine (Hid.out hK) _ _ ((h2.block _ (blk_lt hS) HNB.out).trans hS) (fun hS2 => ?_)
  clear hK K hS
  have hS := hS2
  clear hS2
  (try simp only [Act.put]); (try simp only [List.setIfInBounds_toArray, List.set_cons_zero, List.set_cons_succ])
  have HF : Hid (LayP w B (.slice a n c) n ds (hl 6 42 ++ (hl 2 y.length ++ y)) (.returned v3) w3) := LayP.two HK2.out HA2.out rfl (by rw [← List.append_assoc]; exact h1) h2 h3 h4
  clear h1 h2 h3 h4
  refine heldTake 5 _ rfl (by kernel_rfl) (by kernel_rfl) (by kernel_rfl) (fun _ _ _ h => h) rfl hS (fun wy hy => by first | (go_simp; done) | (go_simp; rfl) | rfl) ?_
  (try simp only [Act.put]); (try simp only [List.setIfInBounds_toArray, List.set_cons_zero, List.set_cons_succ])
  refine heldDone (by kernel_rfl) ?_
  clear hS
  go_wp2_with fail
  go_ret
  exact HF.out
end
section
open Go.RowKit Go
set_option maxRecDepth 1000000 in
theorem sizeOf7_any (k : Nat) (hk : k < 9223372036854775808) (w : World) : Calls Tryz.prog 208 #[.int .i64 (k : Nat)] w fun e w' => e = .returned (.int .i64 (hsize k : Nat)) ∧ w' = w := by
  go_enter Tryz.func208, Tryz.ntmps208
  go_wp2_with fail
  refine (size_any k w (by omega)).mono ?_
  rintro e w1 ⟨rfl, hw1⟩
  have hw1 := hw1.symm
  subst hw1
  go_wp2_with fail
  go_ret
  exact ⟨rfl, rfl⟩
set_option maxRecDepth 1000000 in
theorem nullSize_any (w : World) : Calls Tryz.prog 216 #[.agg #[]] w fun e w' => e = .returned (.int .i64 ((1 : Nat) : Int)) ∧ Below w.heap.size w w' := by
  have HB := hide (below_alloc4 w (.cells #[] 131))
  go_enter Tryz.func216, Tryz.ntmps216
  go_wp2_with fail
  go_ret
  exact ⟨rfl, HB.out⟩
set_option maxRecDepth 1000000 in
theorem truthSize_any (b : Bool) (w : World) : Calls Tryz.prog 199 #[.bool b] w fun e w' => e = .returned (.int .i64 ((1 : Nat) : Int)) ∧ Below w.heap.size w w' := by
  go_enter Tryz.func199, Tryz.ntmps199
  go_wp2_with fail
  go_ret
  exact ⟨rfl, Below.refl _ _⟩
set_option maxRecDepth 1000000 in
theorem floatSize_any (b : Nat) (w : World) : Calls Tryz.prog 205 #[.int .u64 (b : Nat)] w fun e w' => e = .returned (.int .i64 ((9 : Nat) : Int)) ∧ Below w.heap.size w w' := by
  go_enter Tryz.func205, Tryz.ntmps205
  go_wp2_with fail
  go_ret
  exact ⟨rfl, Below.refl _ _⟩
set_option maxRecDepth 1000000 in
theorem wholeSize_any (g : Bool) (N : Nat) (hN : N < 18446744073709551616) (w : World) : Calls Tryz.prog 201 #[.agg #[.bool g, .int .u64 (N : Nat)]] w fun e w' => e = .returned (.int .i64 (hsize N : Nat)) ∧ Below w.heap.size w w' := by
  have HB := hide (below_alloc4 w (.cells #[.bool g, .int .u64 (N : Nat)] 122))
  have HSZ := hide (size_any N (w.alloc (.cells #[.bool g, .int .u64 (N : Nat)] 122)) hN)
  clear hN
  go_enter Tryz.func201, Tryz.ntmps201
  go_wp2_with fail
  refine HSZ.out.mono ?_
  rintro e w1 ⟨rfl, hw1⟩
  subst hw1
  go_wp2_with fail
  go_ret
  exact ⟨rfl, HB.out⟩
set_option maxRecDepth 1000000 in
theorem textSize_any (s : ByteArray) (hs : s.size ≤ 140737488351232) (w : World) : Calls Tryz.prog 207 #[.string s] w fun e w' => e = .returned (.int .i64 ((hsize s.size + s.size : Nat) : Int)) ∧ Below w.heap.size w w' := by
  have HSZ := hide (sizeOf7_any s.size (by omega) w)
  have hle := hsize_le7 s.size
  have e1 : IntKind.i64.wrap ((hsize s.size : Int) + (s.size : Int)) = ((hsize s.size + s.size : Nat) : Int) := by rw [IntKind.wrap_i64]; omega
  clear hle
  go_enter Tryz.func207, Tryz.ntmps207
  go_wp2_with fail
  refine HSZ.out.mono ?_
  rintro e w1 ⟨rfl, hw1⟩
  have hw1 := hw1.symm
  subst hw1
  go_wp2_with fail
  go_ret
  exact ⟨by simp, Below.refl _ _⟩
set_option maxRecDepth 1000000 in
theorem octetsSize_any (av : Option Addr) (k cv : Nat) (hk : k ≤ 140737488351232) (w : World) : Calls Tryz.prog 210 #[.slice av k cv] w fun e w' => e = .returned (.int .i64 ((hsize k + k : Nat) : Int)) ∧ w' = w := by
  have HSZ := hide (sizeOf7_any k (by omega) w)
  have hle := hsize_le7 k
  have e1 : IntKind.i64.wrap ((hsize k : Int) + (k : Int)) = ((hsize k + k : Nat) : Int) := by rw [IntKind.wrap_i64]; omega
  clear hle
  go_enter Tryz.func210, Tryz.ntmps210
  go_wp2_with fail
  refine HSZ.out.mono ?_
  rintro e w1 ⟨rfl, hw1⟩
  have hw1 := hw1.symm
  subst hw1
  go_wp2_with fail
  go_ret
  exact ⟨by simp, rfl⟩
set_option maxRecDepth 1000000 in
theorem listSize_any (av : Option Addr) (k cv : Nat) (hk : k ≤ 140737488351232) (w : World) : Calls Tryz.prog 212 #[.slice av k cv] w fun e w' => e = .returned (.int .i64 (hsize k : Nat)) ∧ Below w.heap.size w w' := by
  have HSZ := hide (sizeOf7_any k (by omega) w)
  go_enter Tryz.func212, Tryz.ntmps212
  go_wp2_with fail
  refine HSZ.out.mono ?_
  rintro e w1 ⟨rfl, hw1⟩
  have hw1 := hw1.symm
  subst hw1
  go_wp2_with fail
  go_ret
  exact ⟨rfl, Below.refl _ _⟩
set_option maxRecDepth 1000000 in
theorem entriesSize_any (ak : Option Addr) (k ck : Nat) (vi : Value) (hk : k ≤ 140737488351232) (w : World) : Calls Tryz.prog 214 #[.agg #[.slice ak k ck, vi]] w fun e w' => e = .returned (.int .i64 (hsize k : Nat)) ∧ Below w.heap.size w w' := by
  have HB := hide (below_alloc4 w (.cells #[.slice ak k ck, vi] 129))
  have HSZ := hide (sizeOf7_any k (by omega) (w.alloc (.cells #[.slice ak k ck, vi] 129)))
  go_enter Tryz.func214, Tryz.ntmps214
  go_wp2_with fail
  refine HSZ.out.mono ?_
  rintro e w1 ⟨rfl, hw1⟩
  subst hw1
  go_wp2_with fail
  go_ret
  exact ⟨rfl, HB.out⟩
set_option maxRecDepth 1000000 in
theorem nameSize_any (av : Option Addr) (k cv : Nat) (hk : k ≤ 140737488351232) (w : World) : Calls Tryz.prog 218 #[.agg #[.slice av k cv]] w fun e w' => e = .returned (.int .i64 ((hsize 42 + (hsize k + k) : Nat) : Int)) ∧ Below w.heap.size w w' := by
  have HB := hide (below_alloc4 w (.cells #[.slice av k cv] 193))
  have HK := hide hk
  have hle := hsize_le7 k
  have e1 : IntKind.i64.wrap ((hsize 42 : Int) + ((hsize k + k : Nat) : Int)) = ((hsize 42 + (hsize k + k) : Nat) : Int) := by rw [IntKind.wrap_i64]; have : hsize 42 = 2 := rfl; omega
  generalize hz : hsize k + k = z at *
  have HZ := hide hz
  generalize h42 : hsize 42 = z2 at *
  have H42 := hide h42
  have HC1 : Hid (∀ W, Calls Tryz.prog 208 #[.int .i64 42] W fun e w' => e = .returned (.int .i64 (z2 : Nat)) ∧ w' = W) := fun W => by rw [← H42.out]; exact sizeOf7_any 42 (by decide) W
  have HC2 : Hid (∀ W, Calls Tryz.prog 210 #[.slice av k cv] W fun e w' => e = .returned (.int .i64 (z : Nat)) ∧ w' = W) := fun W => by rw [← HZ.out]; exact octetsSize_any av k cv HK.out W
  clear hle hz h42 hk
  go_enter Tryz.func218, Tryz.ntmps218
  go_wp2_with fail
  go_quiet (first
    | (go_at_call 208; exact Calls.quiet_of_same (HC1.out _))
    | (go_at_call 210; exact Calls.quiet_of_same (HC2.out _)))
  go_wp2_with fail
  go_ret
  exact ⟨by simp, below_drewN HB.out _⟩
end
section
open Go.RowKit Go
/-! ### Parts in memory, none of which lies in S -/
structure Vis (w : World) (S : Nat → Prop) (vi : Value) (is : List Tv) : Prop where
  form : ∃ (a : Option Addr) (cap : Nat) (cs : Nat → Array Value), vi = .slice a is.length cap ∧ (is.length ≤ cap ∧ (a = none → cap = 0)) ∧ (∀ i u, is[i]? = some u → Tis w S u (cs i)) ∧ (is = [] ∨ ∃ b off, a = some ⟨b, off, none⟩ ∧ ¬ S b ∧ ∀ i, i < is.length → ∀ j u, (cs i)[j]? = some u → w.cell? ⟨b, off + i * 13 + j, none⟩ = some u)
  max : is.length ≤ 140737488351232
def Pis (w : World) (S : Nat → Prop) : Prt → Value → Prop
  | .null, v => v = .iface 131 (.agg #[])
  | .truth b, v => v = .iface 120 (.bool b)
  | .whole g n, v => v = .iface 122 (.agg #[.bool g, .int .u64 (n : Nat)]) ∧ n < 18446744073709551616
  | .float b, v => v = .iface 123 (.int .u64 (b : Nat)) ∧ b < 18446744073709551616
  | .text s, v => v = .iface 124 (.string s) ∧ s.size ≤ 140737488351232
  | .octets y, v => ∃ vb, v = .iface 125 vb ∧ BSl w vb y ∧ (y ≠ [] → ∀ q, vb.ownBlock = some q → ¬ S q) ∧ y.length ≤ 140737488351232
  | .name y, v => ∃ vb, v = .iface 193 (.agg #[vb]) ∧ BSl w vb y ∧ y ≠ [] ∧ (∀ q, vb.ownBlock = some q → ¬ S q) ∧ y.length ≤ 1000
  | .list is, v => ∃ vi, v = .iface 127 vi ∧ Vis w S vi is
  | .entries ks is, v => ∃ vk vi, v = .iface 129 (.agg #[vk, vi]) ∧ SSl w vk ks ∧ (ks ≠ [] → ∀ q, vk.ownBlock = some q → ¬ S q) ∧ Vis w S vi is
theorem tis_live7 {w w' : World} {S T : Nat → Prop} {u : Tv} {c : Array Value} (h : Tis w S u c) (hk : Kp S w w') (ht : ∀ q, T q → S q ∨ w.heap.size ≤ q) : Tis w' T u c :=
  (h.widen.kp (hk.mono (fun _ _ e => .inl e))).mono ht
theorem Vis.live {w w' : World} {S T : Nat → Prop} {vi : Value} {is : List Tv} (h : Vis w S vi is) (hk : Kp S w w') (ht : ∀ q, T q → S q ∨ w.heap.size ≤ q) : Vis w' T vi is := by
  obtain ⟨⟨a, cap, cs, h1, h2, h3, h4⟩, h5⟩ := h
  refine ⟨⟨a, cap, cs, h1, h2, fun i u hu => tis_live7 (h3 i u hu) hk ht, ?_⟩, h5⟩
  by_cases e0 : is = []
  · exact .inl e0
  rcases h4 with e | ⟨b, off, e1, e2, e3⟩
  · exact .inl e
  · refine .inr ⟨b, off, e1, fun hT => ?_, fun i hi j u hu => hk.cell (e3 i hi j u hu) e2⟩
    rcases ht b hT with e | e
    · exact e2 e
    · have hl : 0 < is.length := List.length_pos_iff.2 e0
      have hz := (h3 0 _ (List.getElem?_eq_getElem hl)).tin.size13
      have hc := e3 0 hl 0 _ (Array.getElem?_eq_getElem (by omega))
      have := cell_lt6 hc
      simp only at this
      omega
theorem Pis.live {w w' : World} {S T : Nat → Prop} {p : Prt} {v : Value} (h : Pis w S p v) (hk : Kp S w w') (ht : ∀ q, T q → S q ∨ w.heap.size ≤ q) : Pis w' T p v := by
  cases p with
  | null => exact h
  | truth b => exact h
  | whole g n => exact h
  | float b => exact h
  | text s => exact h
  | octets y =>
    obtain ⟨vb, h1, h2, h3, h4⟩ := h
    by_cases e0 : y = []
    · refine ⟨vb, h1, ?_, fun e => absurd e0 e, h4⟩
      rw [e0] at h2 ⊢
      exact bsl_nil6 h2
    · refine ⟨vb, h1, hk.bsl h2 (h3 e0), fun _ q hq hT => ?_, h4⟩
      rcases ht q hT with e | e
      · exact h3 e0 q hq e
      · have := own_lt h2 e0 hq
        omega
  | name y =>
    obtain ⟨vb, h1, h2, e0, h3, h4⟩ := h
    refine ⟨vb, h1, hk.bsl h2 h3, e0, fun q hq hT => ?_, h4⟩
    rcases ht q hT with e | e
    · exact h3 q hq e
    · have := own_lt h2 e0 hq
      omega
  | list is =>
    obtain ⟨vi, h1, h2⟩ := h
    exact ⟨vi, h1, h2.live hk ht⟩
  | entries ks is =>
    obtain ⟨vk, vi, h1, h2, h3, h4⟩ := h
    by_cases e0 : ks = []
    · refine ⟨vk, vi, h1, ?_, fun e => absurd e0 e, h4.live hk ht⟩
      rw [e0] at h2 ⊢
      exact ssl_nil6 h2
    · refine ⟨vk, vi, h1, hk.ssl h2 (h3 e0), fun _ q hq hT => ?_, h4.live hk ht⟩
      rcases ht q hT with e | e
      · exact h3 e0 q hq e
      · obtain ⟨⟨a, c, hv, _, hc⟩, _, _⟩ := h2
        obtain ⟨b, off, ha, hcc⟩ := hc.resolve_left e0
        subst hv
        subst ha
        have e3 : b = q := by simpa [Value.ownBlock] using hq
        subst e3
        have hl : 0 < ks.length := List.length_pos_iff.2 e0
        have := cell_lt6 (hcc 0 _ (List.getElem?_eq_getElem hl))
        simp only at this
        omega
theorem own_zero7 (w : World) : (w.alloc (.cells #[.int .u8 0] 5)).ownsRow w.heap.size 5 1 (.slice (some ⟨w.heap.size, 0, none⟩) 1 1) 1 (bv [0]) :=
  ⟨rfl, .inr ⟨w.heap.size, 1, _, rfl, Nat.le_refl _, heap_alloc_new w _, Nat.le_refl _, by decide, rfl, rfl⟩⟩
theorem lrow_len7 (l : Lk) : (lrow l).length ≤ 999 := by
  unfold lrow
  split
  · rename_i h
    have h1 := lbytes_len h
    omega
  · exact Nat.zero_le _
end
section
open Go.RowKit Go
set_option maxRecDepth 1000000 in
set_option maxHeartbeats 1000000 in
/-- slices.Concat. -/
theorem concat7_any (w : World) (g n : Nat) (vs : List Value) (xss : List (List Nat)) (hr : Rws w g vs xss) (hn : vs.length = n) (hn0 : n ≤ 100) (h0 : 0 < fln xss n) (hl : fln xss n ≤ 1000) :
    Calls Tryz.prog 154 #[.slice (some ⟨g, 0, none⟩) n n] w fun e w' => ∃ v, e = .returned v ∧ w'.ownsRow w.heap.size 5 1 v (fln xss n) (bv (fla xss n)) ∧ Below w.heap.size w w' := by
  have HR := hide hr
  have HN := hide hn
  have HL := hide hl
  have H0 := hide h0
  have HX : Hid (xss.length = n) := by have := hr.n; show _ = _; omega
  clear hr hn hl h0
  go_enter Tryz.func154, Tryz.ntmps154
  go_wp2_with fail
  go_loopw [3, 11] (fun ss ii wx => wx = w ∧ ∃ k : Nat, k ≤ n ∧ ii = .int .i64 (k : Nat) ∧ ss = .int .i64 (fln xss k : Nat)) (fun _ ii _ => n - (intOf ii).toNat)
  case atStart => exact ⟨rfl, 0, by omega, rfl, rfl⟩
  case round =>
    obtain ⟨rfl, k, hk, rfl, rfl⟩ := hrel
    by_cases hlt : k < n
    · have g1 : (k : Int) < (n : Int) := by omega
      have q1 := HR.out.c k (by have := HN.out; omega)
      have HB1 := hide (HR.out.b k (by have := HN.out; omega))
      have HF := hide (fln_succ xss k (by have := HX.out; omega))
      have HF2 := hide (fln_le xss (k + 1))
      obtain ⟨⟨a, cap, hv, _⟩, _, _⟩ := HB1.out
      rw [hv] at q1
      have g3 : fln xss k + (xss.getD k []).length ≤ 1000 := by have := HF2.out; rw [HF.out, HX.out] at this; have := HL.out; omega
      have HSU : Hid (fln xss k + (xss.getD k []).length = fln xss (k + 1)) := HF.out.symm
      clear hv HF HF2
      generalize fln xss k = s1 at *
      generalize (xss.getD k []).length = s3 at *
      have g2 : ¬ ((s1 : Int) + (s3 : Int) < 0) := by omega
      go_wp2_with fail
      go_roundw
      case rel => exact ⟨trivial, k + 1, by omega, by go_num, by have := HSU.out; congr 1; omega⟩
      case measure => simp [intOf]; omega
    · have hkn : k = n := by omega
      subst hkn
      have g1 : ¬ (k : Int) < (k : Int) := by omega
      generalize hS : fln xss k = S at *
      have HS := hide hS
      clear hS hlt
      have h1 := H0.out
      have h2 := HL.out
      go_wp2_with fail
      refine (grow_any wr S h1 h2).mono ?_
      rintro e w1 ⟨v1, rfl, ho1, hb1⟩
      have HO1 := hide ho1
      have HB1 := hide hb1
      clear ho1 hb1
      obtain ⟨a1, c1, hv1, _⟩ := own_form HO1.out
      subst hv1
      go_wp2_with fail
      go_loopw [6, 27] (fun vv ii wx => ∃ j : Nat, j ≤ k ∧ ii = .int .i64 (j : Nat) ∧ Hid (wx.ownsRow wr.heap.size 5 1 vv (fln xss j) (bv (fla xss j))) ∧ Hid (Below wr.heap.size wr wx)) (fun _ ii _ => k - (intOf ii).toNat)
      case atStart => exact ⟨0, by omega, rfl, HO1, HB1⟩
      case round => as_aux_lemma =>
        rename World => wz
        obtain ⟨j, hj, rfl, HO, HBq⟩ := hrel
        clear HO1 HB1
        by_cases hjl : j < k
        · have g5 : (j : Int) < (k : Int) := by omega
          have HR2 := hide (HR.out.below HBq.out)
          have q1 := HR2.out.c j (by have := HN.out; omega)
          have HBL := hide (HR2.out.b j (by have := HN.out; omega))
          have HF := hide (fln_succ xss j (by have := HX.out; omega))
          have HFA := hide (fla_succ xss j (by have := HX.out; omega))
          have HF2 : Hid (fln xss (j + 1) ≤ 1000) := by have := fln_le xss (j + 1); rw [HX.out, HS.out] at this; exact Nat.le_trans this HL.out
          obtain ⟨⟨a, cap, hv, _⟩, _, _⟩ := HBL.out
          rw [hv] at q1 HBL
          obtain ⟨a2, c2, hv2, _⟩ := own_form HO.out
          subst hv2
          have HZ : Hid (fln xss j + (xss.getD j []).length ≤ 140737488355328) := by have := HF2.out; rw [HF.out] at this; show _ ≤ _; omega
          clear hv HR2
          go_wp2_with (at_builtin; refine append_bsl rfl _ _ rfl wr.heap.size _ (fln xss j) (fla xss j) rfl HO.out _ (xss.getD j []) rfl HBL.out HZ.out HBq.out.size ?_)
          intro v7 w7 ho7 hg7
          have HB7 : Hid (Below wr.heap.size wr w7) := HBq.out.grown hg7 HBq.out.size (fun g hg => (HO.out.lt g hg).1)
          have HO7 : Hid (w7.ownsRow wr.heap.size 5 1 v7 (fln xss (j + 1)) (bv (fla xss (j + 1)))) := by show World.ownsRow _ _ _ _ _ _ _; rw [HF.out, HFA.out]; exact ho7
          clear ho7 hg7 HO HBq HBL HF HFA HF2 HZ
          go_wp2_with fail
          go_roundw
          case rel => exact ⟨j + 1, by omega, by go_num, HO7, HB7⟩
          case measure => simp [intOf]; omega
        · have hjk : j = k := by omega
          subst hjk
          have g5 : ¬ (j : Int) < (j : Int) := by omega
          have ho := HO.out
          rw [HS.out] at ho
          obtain ⟨a2, c2, hv2, _⟩ := own_form ho
          subst hv2
          have HO2 := hide ho
          clear ho HO
          go_wp2_with fail
          go_ret
          exact ⟨_, rfl, by rw [HS.out]; exact HO2.out, HBq.out⟩
set_option maxRecDepth 1000000 in
set_option maxHeartbeats 1000000 in
theorem bytes7_any (w : World) (l : Lk) (hl : Lkb l) :
    Calls Tryz.prog 125 #[lkv l] w fun e w' => ∃ v', e = .returned (.tuple #[v', .int .i64 (if lok l then 0 else 40)]) ∧ w'.ownsRow w.heap.size 5 1 v' (lrow l).length (bv (lrow l)) ∧ Below w.heap.size w w' := by
  have HL := hide hl
  have HT : Hid ((w.alloc (.cells #[.int .i64 l.v, .int .u64 (l.c : Nat), .int .u64 (l.h : Nat), .string (nstr l.d)] 63)).heap[w.heap.size]? = some (.cells (lcs l) 63 (0, 0))) := heap_alloc_new w _
  have HBq := hide (below_alloc4 w (.cells #[.int .i64 l.v, .int .u64 (l.c : Nat), .int .u64 (l.h : Nat), .string (nstr l.d)] 63))
  simp only [lkv]
  by_cases hlk : lok l
  · have HLR : Hid (lrow l = lbytes l) := by show _ = _; unfold lrow; rw [if_pos hlk]
    rw [if_pos hlk, HLR.out]
    have HLK := hide hlk
    clear hlk hl
    go_enter Tryz.func125, Tryz.ntmps125
    go_wp2_with fail
    generalize w.alloc (.cells #[.int .i64 l.v, .int .u64 (l.c : Nat), .int .u64 (l.h : Nat), .string (nstr l.d)] 63) = w0 at *
    refine (check_any w0 l HL.out).mono ?_
    rintro e w1 ⟨rfl, hb1⟩
    rw [if_pos HLK.out]
    have q0 : w1.heap[w.heap.size]? = some (.cells (lcs l) 63 (0, 0)) := (hb1.block _ (blk_lt HT.out)).trans HT.out
    have HB1 : Hid (Below w.heap.size w w1) := HBq.out.trans (hb1.mono HBq.out.size)
    have c2 : w1.cell? ⟨w.heap.size, 2, none⟩ = some (.int .u64 (l.h : Nat)) := blk_cell q0 rfl
    have c3 : w1.cell? ⟨w.heap.size, 3, none⟩ = some (.string (nstr l.d)) := blk_cell q0 rfl
    have cv := conv_sb w1 (nstr l.d)
    go_wp2_with fail
    have HS1 : Hid (BSl (Lib.bytesWorld w1 5 (nstr l.d)) (.slice (some ⟨w1.heap.size, 0, none⟩) (nstr l.d).size (grownCap w1 (nstr l.d).size 0 5)) l.d) := by
      have h := conv_sb_bsl w1 (nstr l.d) (by rw [HL.out.size]; have := HL.out.n; omega)
      rw [sl_nstr HL.out.d] at h
      exact h
    have HB2 : Hid (Below w.heap.size w (Lib.bytesWorld w1 5 (nstr l.d))) := HB1.out.trans ((conv_sb_below w1 _).mono HB1.out.size)
    have HT2 : Hid ((Lib.bytesWorld w1 5 (nstr l.d)).heap[w.heap.size]? = some (.cells (lcs l) 63 (0, 0))) := (Lib.bytesWorld_at_old w1 5 _ _ (blk_lt q0)).trans q0
    clear cv c2 c3 q0 hb1
    generalize grownCap w1 (nstr l.d).size 0 5 = G at *
    generalize w1.heap.size = gg at *
    generalize Lib.bytesWorld w1 5 (nstr l.d) = w2 at *
    refine (dlay_any w2 l.h _ l.d HL.out.h HS1.out).mono ?_
    rintro e w3 ⟨vd, rfl, ho3, hb3⟩
    have HDL := hide (dlay_ok (lok_okd HLK.out))
    rw [HDL.out] at ho3 ⊢
    have HO3 := hide ho3
    have HB3 : Hid (Below w.heap.size w w3) := HB2.out.trans (hb3.mono HB2.out.size)
    have q3 : w3.heap[w.heap.size]? = some (.cells (lcs l) 63 (0, 0)) := (hb3.block _ (blk_lt HT2.out)).trans HT2.out
    have HWB : Hid (w.heap.size ≤ w2.heap.size) := HB2.out.size
    have c0 : w3.cell? ⟨w.heap.size, 0, none⟩ = some (.int .i64 l.v) := blk_cell q3 rfl
    have c1 : w3.cell? ⟨w.heap.size, 1, none⟩ = some (.int .u64 (l.c : Nat)) := blk_cell q3 rfl
    clear ho3 hb3 q3 HS1 HT2 HB2 HDL
    obtain ⟨ad, cd, hvd, _⟩ := own_form HO3.out
    subst hvd
    have HBYT : Hid (∀ x ∈ l.h :: l.d.length :: l.d, x < 256) := by
      have hk := lok_okd HLK.out
      intro x hx
      unfold okd at hk
      simp only [List.mem_cons] at hx
      rcases hx with e | e | e
      · omega
      · omega
      · exact HL.out.d x e
    have HRL : Hid ((l.h :: l.d.length :: l.d).length ≤ 66) := by
      have hk := lok_okd HLK.out
      unfold okd at hk
      show _ ≤ _
      simp
      omega
    by_cases hv0 : l.v = 0
    · as_aux_lemma =>
      have HBY : Hid (lbytes l = l.h :: l.d.length :: l.d) := by show _ = _; unfold lbytes; rw [if_pos hv0]
      rw [hv0] at c0 ⊢
      generalize l.h :: l.d.length :: l.d = rw3 at *
      go_wp2_with fail
      go_ret2
      exact ⟨_, rfl, by rw [HBY.out]; exact own_mono4 HO3.out HWB.out, HB3.out⟩
    · as_aux_lemma =>
      have hv1 : l.v = 1 := by
        rcases HLK.out with h1 | h1
        · exact absurd h1.1 hv0
        · exact h1.1
      have HC : Hid (l.c < 9223372036854775808) := by
        rcases HLK.out with h1 | h1
        · exact absurd h1.1 hv0
        · exact h1.2.1
      have HBY : Hid (lbytes l = 1 :: digs 9 l.c ++ (l.h :: l.d.length :: l.d)) := by show _ = _; unfold lbytes; rw [if_neg hv0]
      have HDB : Hid (∀ x ∈ digs 9 l.c, x < 256) := fun x hx => lbytes_byte HLK.out HL.out.d x (by rw [HBY.out]; simp [hx])
      rw [hv1] at c0 ⊢
      clear hv0 hv1
      generalize l.h :: l.d.length :: l.d = rw3 at *
      go_wp2_with fail
      refine (vlay_any (l.c : Nat) w3 (by omega) (by have := HC.out; omega)).mono ?_
      rintro e w4 ⟨vc, rfl, ho4, hb4⟩
      rw [Int.toNat_natCast] at ho4
      have HV4 := hide (BSl.own ho4 HDB.out)
      have HD4 := hide (BSl.own (own_below4 HO3.out hb4) HBYT.out)
      have HB4 : Hid (Below w.heap.size w w4) := HB3.out.trans (hb4.mono HB3.out.size)
      obtain ⟨ac, cc, hvc, _⟩ := own_form ho4
      subst hvc
      clear ho4 hb4 HO3 HB3 c0 c1
      have HDN := hide (digs_len 9 l.c)
      have hb5 := below_alloc4 w4 (.cells #[.int .u8 1] 5)
      have hb6 := hb5.trans ((below_alloc4 (w4.alloc (.cells #[.int .u8 1] 5)) (.cells #[.slice (some ⟨w4.heap.size, 0, none⟩) 1 1, .slice ac (digs 9 l.c).length cc, .slice ad rw3.length cd] 23)).mono hb5.size)
      have HRW : Hid (Rws ((w4.alloc (.cells #[.int .u8 1] 5)).alloc (.cells #[.slice (some ⟨w4.heap.size, 0, none⟩) 1 1, .slice ac (digs 9 l.c).length cc, .slice ad rw3.length cd] 23)) (w4.heap.size + 1) [.slice (some ⟨w4.heap.size, 0, none⟩) 1 1, .slice ac (digs 9 l.c).length cc, .slice ad rw3.length cd] [[1], digs 9 l.c, rw3]) := by
        have h1 := heap_alloc_new (w4.alloc (.cells #[.int .u8 1] 5)) (.cells #[.slice (some ⟨w4.heap.size, 0, none⟩) 1 1, .slice ac (digs 9 l.c).length cc, .slice ad rw3.length cd] 23)
        have e : (w4.alloc (.cells #[.int .u8 1] 5)).heap.size = w4.heap.size + 1 := by simp
        rw [e] at h1
        refine ⟨rfl, fun i hi => ?_, fun i hi => ?_⟩
        · match i, hi with
          | 0, _ => exact blk_cell h1 rfl
          | 1, _ => exact blk_cell h1 rfl
          | 2, _ => exact blk_cell h1 rfl
        · match i, hi with
          | 0, _ => exact (one_bsl w4 1 (by decide)).move (keep_alloc _ _)
          | 1, _ => exact HV4.out.move (keep_below hb6)
          | 2, _ => exact HD4.out.move (keep_below hb6)
      have HB6 : Hid (Below w.heap.size w ((w4.alloc (.cells #[.int .u8 1] 5)).alloc (.cells #[.slice (some ⟨w4.heap.size, 0, none⟩) 1 1, .slice ac (digs 9 l.c).length cc, .slice ad rw3.length cd] 23))) := HB4.out.trans (hb6.mono HB4.out.size)
      have HF3 : Hid (fla [[1], digs 9 l.c, rw3] 3 = lbytes l) := by show _ = _; rw [HBY.out]; unfold fla; simp
      have HN3 : Hid (fln [[1], digs 9 l.c, rw3] 3 = (lbytes l).length) := by show _ = _; rw [← fla_len, HF3.out]
      have HLN : Hid (0 < (lbytes l).length ∧ (lbytes l).length ≤ 1000) := by
        have h1 := lbytes_len HLK.out
        show _ ∧ _
        rw [HBY.out] at h1 ⊢
        refine ⟨by simp, by omega⟩
      clear hb5 hb6 HV4 HD4 HB4
      go_wp2_with fail
      generalize (w4.alloc (.cells #[.int .u8 1] 5)).alloc (.cells #[.slice (some ⟨w4.heap.size, 0, none⟩) 1 1, .slice ac (digs 9 l.c).length cc, .slice ad rw3.length cd] 23) = w6 at *
      refine (concat7_any w6 (w4.heap.size + 1) 3 _ _ HRW.out rfl (by decide) (by rw [HN3.out]; exact HLN.out.1) (by rw [HN3.out]; exact HLN.out.2)).mono ?_
      rintro e w7 ⟨v7, rfl, ho7, hb7⟩
      rw [HF3.out, HN3.out] at ho7
      have HO7 := hide (own_mono4 ho7 HB6.out.size)
      have HB7 : Hid (Below w.heap.size w w7) := HB6.out.trans (hb7.mono HB6.out.size)
      obtain ⟨a7, c7, hv7, _⟩ := own_form ho7
      subst hv7
      clear ho7 hb7 HRW HB6
      go_wp2_with fail
      go_ret2
      exact ⟨_, rfl, HO7.out, HB7.out⟩
  · have HLR : Hid (lrow l = []) := by show _ = _; unfold lrow; rw [if_neg hlk]
    rw [if_neg hlk, HLR.out]
    have HLK := hide hlk
    clear hlk
    go_enter Tryz.func125, Tryz.ntmps125
    go_wp2_with fail
    generalize w.alloc (.cells #[.int .i64 l.v, .int .u64 (l.c : Nat), .int .u64 (l.h : Nat), .string (nstr l.d)] 63) = w0 at *
    refine (check_any w0 l HL.out).mono ?_
    rintro e w1 ⟨rfl, hb1⟩
    rw [if_neg HLK.out]
    have HB1 : Hid (Below w.heap.size w w1) := HBq.out.trans (hb1.mono HBq.out.size)
    clear hb1
    go_wp2_with fail
    go_ret2
    exact ⟨_, rfl, ⟨rfl, .inl ⟨rfl, rfl⟩⟩, HB1.out⟩
end
section
open Go.RowKit Go
theorem infoL7 : (Tryz.prog.info? 63).map (·.size) = some 4 := by kernel_rfl
theorem exec_lkAt7 {o : Oper} {a : Act} {p : Operand} {g off : Nat} {cs : Array Value} {w : World} (ho : o.op = .load 63 p) (hp : a.eval p = .pointer (some ⟨g, off, none⟩)) (hn : cs.size = 4) (hc : ∀ j u, cs[j]? = some u → w.cell? ⟨g, off + j, none⟩ = some u) : (execOp a.eval o).run Tryz.prog w = .ok (.value (.agg cs)) w := by
  unfold execOp
  have hr : (Instr.loadAt 63 (.pointer (some ⟨g, off, none⟩))).run Tryz.prog w = .ok (.agg cs) w := by
    have hl := run_loadCells_list (P := Tryz.prog) (w := w) ⟨g, off, none⟩ cs.toList (fun j v hv => by rw [addr_add]; exact hc j v (by simpa using hv))
    have hi := infoL7
    simp only [Instr.loadAt, Instr.sureAddr, Sem.run_bind, Sem.run_pure, Result.andThen]
    cases hq : Tryz.prog.info? 63 with
    | none => simp [hq] at hi
    | some i =>
      have hs : i.size = 4 := by simpa [hq] using hi
      have hn2 : cs.toList.length = 4 := by simpa using hn
      rw [hn2] at hl
      have ha : (isAgg 63).run Tryz.prog w = .ok true w := by
        unfold isAgg
        rw [Sem.run_bind, run_underlying Tryz.underlying63 w]
        simp
      simp [loadVar, ha, sizeOf, typeInfo, hq, hs, hl]
  simp only [ho, Sem.run_bind, hp, hr, Result.andThen_ok]
  rfl
def PartP (w : World) (S : Nat → Prop) (p : Prt) (e : Ending) (w' : World) : Prop := ∃ v, e = .returned v ∧ Below w.heap.size w w' ∧ Pis w' S p v
set_option maxRecDepth 1000000 in
set_option maxHeartbeats 1000000 in
theorem nameOf_any (w : World) (S : Nat → Prop) (hS : ∀ q, S q → q < w.heap.size) (l : Lk) (hl : Lkb l) :
    Calls Tryz.prog 93 #[.agg #[.int .i64 l.v, .int .u64 (l.c : Nat), .int .u64 (l.h : Nat), .string (nstr l.d)]] w (PartP w S (.name (0 :: lrow l))) := by
  have HL := hide hl
  have HSq := hide hS
  have HB0 := hide (below_alloc4 w (.cells #[.int .i64 l.v, .int .u64 (l.c : Nat), .int .u64 (l.h : Nat), .string (nstr l.d)] 63))
  have HG0 := hide (heap_alloc_new w (.cells #[.int .i64 l.v, .int .u64 (l.c : Nat), .int .u64 (l.h : Nat), .string (nstr l.d)] 63))
  clear hl hS
  go_enter Tryz.func93, Tryz.ntmps93
  go_upto_region 1 with fail
  generalize w.alloc (.cells #[.int .i64 l.v, .int .u64 (l.c : Nat), .int .u64 (l.h : Nat), .string (nstr l.d)] 63) = w0 at *
  have HLC : Hid (∀ j u, (#[.int .i64 l.v, .int .u64 (l.c : Nat), .int .u64 (l.h : Nat), .string (nstr l.d)] : Array Value)[j]? = some u → w0.cell? ⟨w.heap.size, 0 + j, none⟩ = some u) := fun j u hu => by rw [Nat.zero_add]; exact blk_cell HG0.out hu
  go_wp2_with (refine wpList_exec rfl (exec_lkAt7 (g := w.heap.size) (off := 0) (cs := #[.int .i64 l.v, .int .u64 (l.c : Nat), .int .u64 (l.h : Nat), .string (nstr l.d)]) rfl rfl rfl HLC.out) ?_)
  refine (bytes7_any w0 l HL.out).mono ?_
  rintro e w1 ⟨v1, rfl, ho1, hb1⟩
  generalize (if lok l then (0 : Int) else 40) = cd
  have HS1 := hide (BSl.own ho1 (lrow_byte HL.out.d))
  have HB1 : Hid (Below w.heap.size w w1) := HB0.out.trans (hb1.mono HB0.out.size)
  obtain ⟨a1, c1, hv1⟩ := own_slice7 ho1
  subst hv1
  have hb2 := below_alloc4 w1 (.cells #[.int .u8 0] 5)
  have HO2 := hide (own_zero7 w1)
  have HS2 := hide (HS1.out.move (keep_below hb2))
  have HB2 : Hid (Below w.heap.size w (w1.alloc (.cells #[.int .u8 0] 5))) := HB1.out.trans (hb2.mono HB1.out.size)
  have HLR := hide (lrow_len7 l)
  generalize hR : lrow l = R at *
  have HRE := hide hR
  have HLB : Hid (1 + R.length ≤ 140737488355328) := by show _ ≤ _; have := HLR.out; omega
  clear ho1 hb1 hb2 hR
  go_wp2_with (at_builtin; refine append_bytes rfl _ _ 125 23 rfl Tryz.underlying125 Tryz.underlying23 w1.heap.size _ 1 [0] rfl HO2.out (fun h => by cases h) _ R rfl HS2.out HLB.out (by simp) ?_)
  intro v3 w3 h1 h2 h3 h4
  have HB3 : Hid (Below w.heap.size w w3) := HB2.out.grown h2 HB2.out.size (fun q hq => by have h5 := (HO2.out.lt q hq).1; exact Nat.le_trans HB1.out.size h5)
  have HP3 : Hid (Pis w3 S (.name (0 :: R)) (.iface 193 (.agg #[v3]))) := by
    refine ⟨v3, rfl, BSl.own h1 ?_, by simp, fun q hq hs => ?_, ?_⟩
    · intro x hx
      rcases List.mem_cons.1 hx with e | e
      · rw [e]; decide
      · exact HS1.out.byte x e
    · have h5 := (h1.lt q hq).1
      have h6 := HSq.out q hs
      have h7 := HB1.out.size
      omega
    · show R.length + 1 ≤ 1000
      have := HLR.out
      omega
  obtain ⟨a3, c3, hv3⟩ := own_slice7 h1
  subst hv3
  clear h1 h2 h3 h4
  go_wp2_with fail
  go_ret
  exact ⟨_, rfl, HB3.out, HP3.out⟩
end
section
open Go.RowKit Go
set_option maxRecDepth 1000000 in
set_option maxHeartbeats 2000000 in
theorem partOf_any (w : World) (S : Nat → Prop) (hS : ∀ q, S q → q < w.heap.size) (t : Tv) (cs : Array Value) (ht : Tis w S t cs) :
    Calls Tryz.prog 53 #[.agg cs] w (PartP w S (prt t)) := by
  have hb0 := below_alloc4 w (.cells cs 65)
  have HB0 := hide hb0
  have HG0 := hide (heap_alloc_new w (.cells cs 65))
  have HSq := hide hS
  have ht0 := ht.kp (Kp.of_below hb0)
  clear ht hb0 hS
  generalize hw0 : w.alloc (.cells cs 65) = w0 at *
  have HW0 := hide hw0
  clear hw0
  cases ht0 with
  | mk _ vy vk vi hb hy hys hk hks cx a cap hv hc hm hi ha =>
  subst hv
  have HBD := hide hb
  have HY := hide hy
  have HYS := hide hys
  have HK := hide hk
  have HKS := hide hks
  have HV : Hid (Vis w0 S (.slice a t.is.length cap) t.is) := ⟨⟨a, cap, cx, rfl, hc, hi, ha⟩, hm⟩
  obtain ⟨⟨ay, cy, hvy, _, _⟩, _, _⟩ := hy
  obtain ⟨⟨ak, ck, hvk, _, _⟩, _, _⟩ := hk
  subst hvy
  subst hvk
  clear hb hys hks hc hm hi ha
  have q0 : w0.cell? ⟨w.heap.size, 0, none⟩ = some (.int .i64 t.k) := blk_cell (j := 0) HG0.out rfl
  have HPT : Hid (prt t = if t.k = 2 then .truth t.f else if t.k = 3 then .whole t.g t.n else if t.k = 4 then .float t.b else if t.k = 5 then .text t.s else if t.k = 6 then .octets t.y else if t.k = 7 then .name (0 :: lrow t.l) else if t.k = 8 then .list t.is else if t.k = 9 then .entries t.ks t.is else .null) := rfl
  generalize prt t = P at *
  have HLC : Hid (∀ j u, (#[.int .i64 t.l.v, .int .u64 (t.l.c : Nat), .int .u64 (t.l.h : Nat), .string (nstr t.l.d)] : Array Value)[j]? = some u → w0.cell? ⟨w.heap.size, 7 + j, none⟩ = some u) := fun j u hu => blk_cell (j := 7 + j) HG0.out (by
    have hj := (Array.getElem?_eq_some_iff.1 hu).1
    have hj2 : j < 4 := hj
    have : j = 0 ∨ j = 1 ∨ j = 2 ∨ j = 3 := by omega
    rcases this with rfl | rfl | rfl | rfl <;> exact hu)
  by_cases h2 : t.k = 2
  · as_aux_lemma =>
    have g2 : (t.k == 2) = true := beq_iff_eq.2 h2
    have HPP : Hid (P = .truth t.f) := by show _ = _; rw [HPT.out, if_pos h2]
    have q1 : w0.cell? ⟨w.heap.size, 1, none⟩ = some (.bool t.f) := blk_cell (j := 1) HG0.out rfl
    clear h2 HPT
    go_enter Tryz.func53, Tryz.ntmps53
    go_upto_region 1 with fail
    rw [HW0.out]
    go_wp2_with fail
    go_ret
    exact ⟨_, rfl, HB0.out, by rw [HPP.out]; exact rfl⟩
  by_cases h3 : t.k = 3
  · as_aux_lemma =>
    have g2 : (t.k == 2) = false := beq_eq_false_iff_ne.2 h2
    have g3 : (t.k == 3) = true := beq_iff_eq.2 h3
    have HPP : Hid (P = .whole t.g t.n) := by show _ = _; rw [HPT.out, if_neg h2, if_pos h3]
    have q2 : w0.cell? ⟨w.heap.size, 2, none⟩ = some (.bool t.g) := blk_cell (j := 2) HG0.out rfl
    have q3 : w0.cell? ⟨w.heap.size, 3, none⟩ = some (.int .u64 (t.n : Nat)) := blk_cell (j := 3) HG0.out rfl
    clear h2 h3 HPT
    go_enter Tryz.func53, Tryz.ntmps53
    go_upto_region 1 with fail
    rw [HW0.out]
    go_wp2_with fail
    go_ret
    exact ⟨_, rfl, HB0.out, by rw [HPP.out]; exact ⟨rfl, HBD.out.n⟩⟩
  by_cases h4 : t.k = 4
  · as_aux_lemma =>
    have g2 : (t.k == 2) = false := beq_eq_false_iff_ne.2 h2
    have g3 : (t.k == 3) = false := beq_eq_false_iff_ne.2 h3
    have g4 : (t.k == 4) = true := beq_iff_eq.2 h4
    have HPP : Hid (P = .float t.b) := by show _ = _; rw [HPT.out, if_neg h2, if_neg h3, if_pos h4]
    have q4 : w0.cell? ⟨w.heap.size, 4, none⟩ = some (.int .u64 (t.b : Nat)) := blk_cell (j := 4) HG0.out rfl
    clear h2 h3 h4 HPT
    go_enter Tryz.func53, Tryz.ntmps53
    go_upto_region 1 with fail
    rw [HW0.out]
    go_wp2_with fail
    go_ret
    exact ⟨_, rfl, HB0.out, by rw [HPP.out]; exact ⟨rfl, HBD.out.b⟩⟩
  by_cases h5 : t.k = 5
  · as_aux_lemma =>
    have g2 : (t.k == 2) = false := beq_eq_false_iff_ne.2 h2
    have g3 : (t.k == 3) = false := beq_eq_false_iff_ne.2 h3
    have g4 : (t.k == 4) = false := beq_eq_false_iff_ne.2 h4
    have g5 : (t.k == 5) = true := beq_iff_eq.2 h5
    have HPP : Hid (P = .text t.s) := by show _ = _; rw [HPT.out, if_neg h2, if_neg h3, if_neg h4, if_pos h5]
    have q5 : w0.cell? ⟨w.heap.size, 5, none⟩ = some (.string t.s) := blk_cell (j := 5) HG0.out rfl
    clear h2 h3 h4 h5 HPT
    go_enter Tryz.func53, Tryz.ntmps53
    go_upto_region 1 with fail
    rw [HW0.out]
    go_wp2_with fail
    go_ret
    exact ⟨_, rfl, HB0.out, by rw [HPP.out]; exact ⟨rfl, HBD.out.s⟩⟩
  by_cases h6 : t.k = 6
  · as_aux_lemma =>
    have g2 : (t.k == 2) = false := beq_eq_false_iff_ne.2 h2
    have g3 : (t.k == 3) = false := beq_eq_false_iff_ne.2 h3
    have g4 : (t.k == 4) = false := beq_eq_false_iff_ne.2 h4
    have g5 : (t.k == 5) = false := beq_eq_false_iff_ne.2 h5
    have g6 : (t.k == 6) = true := beq_iff_eq.2 h6
    have HPP : Hid (P = .octets t.y) := by show _ = _; rw [HPT.out, if_neg h2, if_neg h3, if_neg h4, if_neg h5, if_pos h6]
    have q6 : w0.cell? ⟨w.heap.size, 6, none⟩ = some (.slice ay t.y.length cy) := blk_cell (j := 6) HG0.out rfl
    clear h2 h3 h4 h5 h6 HPT
    go_enter Tryz.func53, Tryz.ntmps53
    go_upto_region 1 with fail
    rw [HW0.out]
    go_wp2_with fail
    go_ret
    exact ⟨_, rfl, HB0.out, by rw [HPP.out]; exact ⟨_, rfl, HY.out, HYS.out, HBD.out.y⟩⟩
  by_cases h7 : t.k = 7
  · as_aux_lemma =>
    have g2 : (t.k == 2) = false := beq_eq_false_iff_ne.2 h2
    have g3 : (t.k == 3) = false := beq_eq_false_iff_ne.2 h3
    have g4 : (t.k == 4) = false := beq_eq_false_iff_ne.2 h4
    have g5 : (t.k == 5) = false := beq_eq_false_iff_ne.2 h5
    have g6 : (t.k == 6) = false := beq_eq_false_iff_ne.2 h6
    have g7 : (t.k == 7) = true := beq_iff_eq.2 h7
    have HPP : Hid (P = .name (0 :: lrow t.l)) := by show _ = _; rw [HPT.out, if_neg h2, if_neg h3, if_neg h4, if_neg h5, if_neg h6, if_pos h7]
    clear h2 h3 h4 h5 h6 h7 HPT
    go_enter Tryz.func53, Tryz.ntmps53
    go_upto_region 1 with fail
    rw [HW0.out]
    go_wp2_with (refine wpList_exec rfl (exec_lkAt7 (g := w.heap.size) (off := 7) (cs := #[.int .i64 t.l.v, .int .u64 (t.l.c : Nat), .int .u64 (t.l.h : Nat), .string (nstr t.l.d)]) rfl rfl rfl HLC.out) ?_)
    refine (nameOf_any w0 S (fun q hq => Nat.lt_of_lt_of_le (HSq.out q hq) HB0.out.size) t.l HBD.out.l).mono ?_
    rintro e w1 ⟨v1, rfl, hb1, hp1⟩
    have HB1 : Hid (Below w.heap.size w w1) := HB0.out.trans (hb1.mono HB0.out.size)
    have HP1 := hide hp1
    clear hb1 hp1 q0
    go_wp2_with fail
    go_ret
    exact ⟨_, rfl, HB1.out, by rw [HPP.out]; exact HP1.out⟩
  by_cases h8 : t.k = 8
  · as_aux_lemma =>
    have g2 : (t.k == 2) = false := beq_eq_false_iff_ne.2 h2
    have g3 : (t.k == 3) = false := beq_eq_false_iff_ne.2 h3
    have g4 : (t.k == 4) = false := beq_eq_false_iff_ne.2 h4
    have g5 : (t.k == 5) = false := beq_eq_false_iff_ne.2 h5
    have g6 : (t.k == 6) = false := beq_eq_false_iff_ne.2 h6
    have g7 : (t.k == 7) = false := beq_eq_false_iff_ne.2 h7
    have g8 : (t.k == 8) = true := beq_iff_eq.2 h8
    have HPP : Hid (P = .list t.is) := by show _ = _; rw [HPT.out, if_neg h2, if_neg h3, if_neg h4, if_neg h5, if_neg h6, if_neg h7, if_pos h8]
    have q12 : w0.cell? ⟨w.heap.size, 12, none⟩ = some (.slice a t.is.length cap) := blk_cell (j := 12) HG0.out rfl
    clear h2 h3 h4 h5 h6 h7 h8 HPT
    go_enter Tryz.func53, Tryz.ntmps53
    go_upto_region 1 with fail
    rw [HW0.out]
    go_wp2_with fail
    go_ret
    exact ⟨_, rfl, HB0.out, by rw [HPP.out]; exact ⟨_, rfl, HV.out⟩⟩
  by_cases h9 : t.k = 9
  · as_aux_lemma =>
    have g2 : (t.k == 2) = false := beq_eq_false_iff_ne.2 h2
    have g3 : (t.k == 3) = false := beq_eq_false_iff_ne.2 h3
    have g4 : (t.k == 4) = false := beq_eq_false_iff_ne.2 h4
    have g5 : (t.k == 5) = false := beq_eq_false_iff_ne.2 h5
    have g6 : (t.k == 6) = false := beq_eq_false_iff_ne.2 h6
    have g7 : (t.k == 7) = false := beq_eq_false_iff_ne.2 h7
    have g8 : (t.k == 8) = false := beq_eq_false_iff_ne.2 h8
    have g9 : (t.k == 9) = true := beq_iff_eq.2 h9
    have HPP : Hid (P = .entries t.ks t.is) := by show _ = _; rw [HPT.out, if_neg h2, if_neg h3, if_neg h4, if_neg h5, if_neg h6, if_neg h7, if_neg h8, if_pos h9]
    have q11 : w0.cell? ⟨w.heap.size, 11, none⟩ = some (.slice ak t.ks.length ck) := blk_cell (j := 11) HG0.out rfl
    have q12 : w0.cell? ⟨w.heap.size, 12, none⟩ = some (.slice a t.is.length cap) := blk_cell (j := 12) HG0.out rfl
    clear h2 h3 h4 h5 h6 h7 h8 h9 HPT
    go_enter Tryz.func53, Tryz.ntmps53
    go_upto_region 1 with fail
    rw [HW0.out]
    go_wp2_with fail
    go_ret
    exact ⟨_, rfl, HB0.out, by rw [HPP.out]; exact ⟨_, _, rfl, HK.out, HKS.out, HV.out⟩⟩
  as_aux_lemma =>
    have g2 : (t.k == 2) = false := beq_eq_false_iff_ne.2 h2
    have g3 : (t.k == 3) = false := beq_eq_false_iff_ne.2 h3
    have g4 : (t.k == 4) = false := beq_eq_false_iff_ne.2 h4
    have g5 : (t.k == 5) = false := beq_eq_false_iff_ne.2 h5
    have g6 : (t.k == 6) = false := beq_eq_false_iff_ne.2 h6
    have g7 : (t.k == 7) = false := beq_eq_false_iff_ne.2 h7
    have g8 : (t.k == 8) = false := beq_eq_false_iff_ne.2 h8
    have g9 : (t.k == 9) = false := beq_eq_false_iff_ne.2 h9
    have HPP : Hid (P = .null) := by show _ = _; rw [HPT.out, if_neg h2, if_neg h3, if_neg h4, if_neg h5, if_neg h6, if_neg h7, if_neg h8, if_neg h9]
    clear h2 h3 h4 h5 h6 h7 h8 h9 HPT
    go_enter Tryz.func53, Tryz.ntmps53
    go_upto_region 1 with fail
    rw [HW0.out]
    go_wp2_with fail
    go_ret
    exact ⟨_, rfl, HB0.out, by rw [HPP.out]; exact rfl⟩
end
section
open Go.RowKit Go
/-- What below tells. -/
def BelP (w : World) (S : Nat → Prop) (ps : List Prt) (e : Ending) (w' : World) : Prop :=
  ∃ (vp : Value) (vs : List Value), e = .returned vp ∧ Below w.heap.size w w' ∧ w'.ownsRow w.heap.size 103 1 vp ps.length vs ∧ ∀ (i : Nat) (p : Prt) (v : Value), ps[i]? = some p → vs[i]? = some v → Pis w' S p v
theorem BelP.none (w : World) (S : Nat → Prop) : BelP w S [] (.returned (.slice none 0 0)) w := ⟨_, [], rfl, Below.refl _ _, World.ownsRow_nil _ _ _ _, fun i p v hp => by simp at hp⟩
set_option maxRecDepth 1000000 in
set_option maxHeartbeats 2000000 in
theorem below_none (w : World) (S : Nat → Prop) (p : Prt) (v : Value) (hp : Pis w S p v) (h1 : ∀ is, p ≠ .list is) (h2 : ∀ ks is, p ≠ .entries ks is) :
    Calls Tryz.prog 92 #[v] w (BelP w S (pbl p)) := by
  cases p with
  | null =>
    have e : v = _ := hp
    subst e
    clear hp h1 h2
    have t1 : ∀ w, (Instr.typeAssert (.iface 131 (.agg #[])) 103 127 true).run Tryz.prog w = .ok (.tuple #[.slice none 0 0, .bool false]) w := fun _ => by kernel_rfl
    have t2 : ∀ w, (Instr.typeAssert (.iface 131 (.agg #[])) 103 129 true).run Tryz.prog w = .ok (.tuple #[.agg #[.slice none 0 0, .slice none 0 0], .bool false]) w := fun _ => by kernel_rfl
    go_enter Tryz.func92, Tryz.ntmps92
    go_wp2_with fail
    go_ret
    exact BelP.none w S
  | truth b =>
    have e : v = _ := hp
    subst e
    clear hp h1 h2
    have t1 : ∀ w, (Instr.typeAssert (.iface 120 (.bool b)) 103 127 true).run Tryz.prog w = .ok (.tuple #[.slice none 0 0, .bool false]) w := fun _ => by kernel_rfl
    have t2 : ∀ w, (Instr.typeAssert (.iface 120 (.bool b)) 103 129 true).run Tryz.prog w = .ok (.tuple #[.agg #[.slice none 0 0, .slice none 0 0], .bool false]) w := fun _ => by kernel_rfl
    go_enter Tryz.func92, Tryz.ntmps92
    go_wp2_with fail
    go_ret
    exact BelP.none w S
  | whole g n =>
    obtain ⟨e, -⟩ := hp
    subst e
    clear h1 h2
    have t1 : ∀ w, (Instr.typeAssert (.iface 122 (.agg #[.bool g, .int .u64 (n : Nat)])) 103 127 true).run Tryz.prog w = .ok (.tuple #[.slice none 0 0, .bool false]) w := fun _ => by kernel_rfl
    have t2 : ∀ w, (Instr.typeAssert (.iface 122 (.agg #[.bool g, .int .u64 (n : Nat)])) 103 129 true).run Tryz.prog w = .ok (.tuple #[.agg #[.slice none 0 0, .slice none 0 0], .bool false]) w := fun _ => by kernel_rfl
    go_enter Tryz.func92, Tryz.ntmps92
    go_wp2_with fail
    go_ret
    exact BelP.none w S
  | float b =>
    obtain ⟨e, -⟩ := hp
    subst e
    clear h1 h2
    have t1 : ∀ w, (Instr.typeAssert (.iface 123 (.int .u64 (b : Nat))) 103 127 true).run Tryz.prog w = .ok (.tuple #[.slice none 0 0, .bool false]) w := fun _ => by kernel_rfl
    have t2 : ∀ w, (Instr.typeAssert (.iface 123 (.int .u64 (b : Nat))) 103 129 true).run Tryz.prog w = .ok (.tuple #[.agg #[.slice none 0 0, .slice none 0 0], .bool false]) w := fun _ => by kernel_rfl
    go_enter Tryz.func92, Tryz.ntmps92
    go_wp2_with fail
    go_ret
    exact BelP.none w S
  | text s =>
    obtain ⟨e, -⟩ := hp
    subst e
    clear h1 h2
    have t1 : ∀ w, (Instr.typeAssert (.iface 124 (.string s)) 103 127 true).run Tryz.prog w = .ok (.tuple #[.slice none 0 0, .bool false]) w := fun _ => by kernel_rfl
    have t2 : ∀ w, (Instr.typeAssert (.iface 124 (.string s)) 103 129 true).run Tryz.prog w = .ok (.tuple #[.agg #[.slice none 0 0, .slice none 0 0], .bool false]) w := fun _ => by kernel_rfl
    go_enter Tryz.func92, Tryz.ntmps92
    go_wp2_with fail
    go_ret
    exact BelP.none w S
  | octets y =>
    obtain ⟨vb, e, hb, -, -⟩ := hp
    obtain ⟨⟨a, c, hv, _⟩, _⟩ := hb
    subst hv
    subst e
    clear h1 h2
    have t1 : ∀ w, (Instr.typeAssert (.iface 125 (.slice a y.length c)) 103 127 true).run Tryz.prog w = .ok (.tuple #[.slice none 0 0, .bool false]) w := fun _ => by kernel_rfl
    have t2 : ∀ w, (Instr.typeAssert (.iface 125 (.slice a y.length c)) 103 129 true).run Tryz.prog w = .ok (.tuple #[.agg #[.slice none 0 0, .slice none 0 0], .bool false]) w := fun _ => by kernel_rfl
    go_enter Tryz.func92, Tryz.ntmps92
    go_wp2_with fail
    go_ret
    exact BelP.none w S
  | name y =>
    obtain ⟨vb, e, hb, -⟩ := hp
    obtain ⟨⟨a, c, hv, _⟩, _⟩ := hb
    subst hv
    subst e
    clear h1 h2
    have t1 : ∀ w, (Instr.typeAssert (.iface 193 (.agg #[.slice a y.length c])) 103 127 true).run Tryz.prog w = .ok (.tuple #[.slice none 0 0, .bool false]) w := fun _ => by kernel_rfl
    have t2 : ∀ w, (Instr.typeAssert (.iface 193 (.agg #[.slice a y.length c])) 103 129 true).run Tryz.prog w = .ok (.tuple #[.agg #[.slice none 0 0, .slice none 0 0], .bool false]) w := fun _ => by kernel_rfl
    go_enter Tryz.func92, Tryz.ntmps92
    go_wp2_with fail
    go_ret
    exact BelP.none w S
  | list is => exact absurd rfl (h1 is)
  | entries ks is => exact absurd rfl (h2 ks is)
theorem infoP7_ex : ∃ i, Tryz.prog.info? 103 = some i ∧ i.zero = some .nilIface ∧ i.size = 1 ∧ i.bytes = 16 := by
  have h : (Tryz.prog.info? 103).map (fun i => (i.size, i.bytes)) = some (1, 16) := by kernel_rfl
  have h2 : (Tryz.prog.info? 103).bind (fun i => i.zero) = some .nilIface := by kernel_rfl
  cases hi : Tryz.prog.info? 103 with
  | none => rw [hi] at h; cases h
  | some i =>
    rw [hi] at h h2
    simp at h h2
    exact ⟨i, rfl, h2, h.1, h.2⟩
theorem append_parts {ops : Array Oper} {rest : List Oper} {o : Oper} {a : Act} {Q : Exit → Act → World → Prop} {w : World} (hgd : o.guard = none) (s x : Operand)
    (ho : o.op = .call { callee := .builtin .append, args := #[s, x], argTypes := #[118, 118] }) (B : Nat) (v : Value) (n : Nat) (ds : List Value) (hs : a.eval s = v) (hown : w.ownsRow B 103 1 v n ds)
    (g m : Nat) (xs : List Value) (hx : a.eval x = .slice (some ⟨g, 0, none⟩) m m) (hm : xs.length = m) (hg : w.heap[g]? = some (.cells xs.toArray 103 (0, 0))) (h1 : ∀ u ∈ xs, u.oneCell' = true) (hlen : n + m ≤ 1099511627776) (hbase : B ≤ w.heap.size)
    (h : ∀ v' w', w'.ownsRow B 103 1 v' (n + m) (ds ++ xs) → w.grownBy w' v.ownBlock → At7 w v v' → wpList Tryz.prog ops Q rest (a.put o.dst v') w') : wpList Tryz.prog ops Q (o :: rest) a w := by
  obtain ⟨i, hi, hz0, hz1, hz2⟩ := infoP7_ex
  refine wpList_append_own_at w hgd s x 118 ho B 103 i _ 1 16 Tryz.underlying118 hi hz0 hz1 hz2 rfl (by decide) v n ds hs hown ⟨g, 0, none⟩ m m xs hx (by omega) (fun j u hu => ?_) h1 (by unfold maxLen; omega) (by omega) hbase fun v' w' h1 h2 _ h4 => h v' w' h1 h2 ?_
  · have hadd : (⟨g, 0, none⟩ : Addr).add j = ⟨g, j, none⟩ := by unfold Addr.add; split <;> simp_all
    rw [hadd]
    exact blk_cell hg (by simpa using hu)
  · rcases h4 with e | e
    · exact .inl e
    · exact .inr (fun q hq => by rw [e] at hq; injection hq with hq; omega)
end
section
open Go.RowKit Go
structure Bl7 (w wx : World) (S : Nat → Prop) (ps : List Prt) (k : Nat) (vp : Value) (vs : List Value) : Prop where
  b : Below w.heap.size w wx
  o : wx.ownsRow w.heap.size 103 1 vp k vs
  p : ∀ (i : Nat) (p : Prt) (v : Value), i < k → ps[i]? = some p → vs[i]? = some v → Pis wx (fun q => S q ∨ vp.ownBlock = some q) p v
theorem Bl7.len {w wx : World} {S : Nat → Prop} {ps : List Prt} {k : Nat} {vp : Value} {vs : List Value} (h : Bl7 w wx S ps k vp vs) : vs.length = k := by
  have := h.o.1
  omega
theorem Bl7.next {w wx wy : World} {S : Nat → Prop} {ps : List Prt} {k : Nat} {vp : Value} {vs : List Value} (h : Bl7 w wx S ps k vp vs) (hb : Below wx.heap.size wx wy) : Bl7 w wy S ps k vp vs :=
  ⟨h.b.trans (hb.mono h.b.size), (Kp.of_below (S := fun _ => False) hb).owns h.o (fun _ _ h => h), fun i p v hi hp hv => (h.p i p v hi hp hv).live (Kp.of_below hb) (fun _ hq => .inl hq)⟩
/-- Some parts more. -/
theorem Bl7.add {w wx wy : World} {S : Nat → Prop} {ps : List Prt} {k m : Nat} {vp vp' : Value} {vs us : List Value} (h : Bl7 w wx S ps k vp vs) (ho : wy.ownsRow w.heap.size 103 1 vp' (k + m) (vs ++ us)) (hg : wx.grownBy wy vp.ownBlock) (ha : At7 wx vp vp')
    (hu : ∀ (i : Nat) (p : Prt) (v : Value), ps[k + i]? = some p → us[i]? = some v → Pis wx (fun q => S q ∨ vp.ownBlock = some q) p v) : Bl7 w wy S ps (k + m) vp' (vs ++ us) := by
  have hk : Kp (fun q => S q ∨ vp.ownBlock = some q) wx wy := (kp_grown hg).mono (fun q _ e => .inr e)
  have ht : ∀ q, (S q ∨ vp'.ownBlock = some q) → (S q ∨ vp.ownBlock = some q) ∨ wx.heap.size ≤ q := fun q hq => by
    rcases hq with e | e
    · exact .inl (.inl e)
    · rcases ha with e2 | e2
      · exact .inl (.inr (e2 ▸ e))
      · exact .inr (e2 q e)
  refine ⟨h.b.grown hg h.b.size (fun q hq => (h.o.lt q hq).1), ho, fun i p v hi hp hv => ?_⟩
  have hl := h.len
  by_cases hik : i < k
  · rw [List.getElem?_append_left (by omega)] at hv
    exact (h.p i p v hik hp hv).live hk ht
  · rw [List.getElem?_append_right (by omega), hl] at hv
    exact (hu (i - k) p v (by rw [show k + (i - k) = i by omega]; exact hp) hv).live hk ht
theorem Bl7.out {w wx : World} {S : Nat → Prop} {ps : List Prt} {k : Nat} {vp : Value} {vs : List Value} (h : Bl7 w wx S ps k vp vs) (hk : k = ps.length) : BelP w S ps (.returned vp) wx := by
  subst hk
  exact ⟨vp, vs, rfl, h.b, h.o, fun i p v hp hv => (h.p i p v (List.getElem?_eq_some_iff.1 hp).1 hp hv).live (Kp.refl _ _) (fun q hq => .inl (.inl hq))⟩
theorem itm_mk7 (w : World) (c : Array Value) : Below w.heap.size w ((w.alloc (.cells zv 65)).setRow w.heap.size c) ∧ ((w.alloc (.cells zv 65)).setRow w.heap.size c).heap[w.heap.size]? = some (.cells c 65 (0, 0)) :=
  ⟨(below_alloc4 w _).trans ((row_kp _ _ _).below (below_alloc4 w _).size (fun q e => by omega)), row_same (heap_alloc_new w _)⟩
theorem pis_one {w : World} {S : Nat → Prop} {p : Prt} {v : Value} (h : Pis w S p v) : ∃ T x, v = .iface T x := by
  cases p with
  | null => exact ⟨_, _, h⟩
  | truth b => exact ⟨_, _, h⟩
  | whole g n => exact ⟨_, _, h.1⟩
  | float b => exact ⟨_, _, h.1⟩
  | text s => exact ⟨_, _, h.1⟩
  | octets y => obtain ⟨_, e, _⟩ := h; exact ⟨_, _, e⟩
  | name y => obtain ⟨_, e, _⟩ := h; exact ⟨_, _, e⟩
  | list is => obtain ⟨_, e, _⟩ := h; exact ⟨_, _, e⟩
  | entries ks is => obtain ⟨_, _, e, _⟩ := h; exact ⟨_, _, e⟩
set_option maxRecDepth 1000000 in
set_option maxHeartbeats 4000000 in
theorem below_list (w : World) (S : Nat → Prop) (hS : ∀ q, S q → q < w.heap.size) (is : List Tv) (v : Value) (hp : Pis w S (.list is) v) (hil : is.length ≤ 1000000000) :
    Calls Tryz.prog 92 #[v] w (BelP w S (is.map prt)) := by
  obtain ⟨vi, e, hv⟩ := hp
  subst e
  have HV := hide hv
  have HSq := hide hS
  obtain ⟨⟨a, cap, cx, rfl, hcc, -, -⟩, hmx⟩ := hv
  have t1 : ∀ w, (Instr.typeAssert (.iface 127 (.slice a is.length cap)) 103 127 true).run Tryz.prog w = .ok (.tuple #[.slice a is.length cap, .bool true]) w := fun _ => by kernel_rfl
  have HB0 : Hid (Bl7 w w S (is.map prt) 0 (.slice none 0 0) []) := ⟨Below.refl _ _, World.ownsRow_nil _ _ _ _, fun i p v hi => by omega⟩
  clear hS hcc hmx
  go_enter Tryz.func92, Tryz.ntmps92
  go_wp2_with fail
  go_loopw [3, 16] (fun vp kk wx => ∃ (k : Nat) (vs : List Value), k ≤ is.length ∧ kk = .int .i64 (k : Nat) ∧ Hid (Bl7 w wx S (is.map prt) k vp vs)) (fun _ kk _ => is.length - (intOf kk).toNat)
  case atStart => exact ⟨0, [], by omega, rfl, HB0⟩
  case round =>
    rename World => wx
    obtain ⟨k, vs, hk, rfl, HX⟩ := hrel
    clear HB0 t1
    by_cases hlt : k < is.length
    · as_aux_lemma =>
      have g1 : (k : Int) < (is.length : Int) := by omega
      obtain ⟨⟨a', cap', cs, hva, -, hts, hform⟩, -⟩ := HV.out
      injection hva with e1 e2 e3
      subst e1
      obtain ⟨b, off, ha, hnb, hcell⟩ := hform.resolve_left (fun e => by rw [e] at hlt; simp at hlt)
      subst ha
      have hti := hts k _ (List.getElem?_eq_getElem hlt)
      have HSZ := hide hti.tin.size13
      have HA1 := hide hti.tin.all1
      have HCC : Hid (∀ j u, (cs k)[j]? = some u → wx.cell? ⟨b, off + k * 13 + j, none⟩ = some u) := fun j u hu => keep_below HX.out.b _ _ (hcell k hlt j u hu)
      have hmk := itm_mk7 wx (cs k)
      have HXN := hide (HX.out.next hmk.1)
      have HNB := hide (heap_alloc_new wx (.cells zv 65))
      have HVB := hide hmk.2
      have HI5 : Hid ((Tryz.prog.info? 65).map (·.size) = some (cs k).size) := by show _ = _; rw [HSZ.out]; exact infoV
      have HZ5 : Hid (zv.size = (cs k).size) := by show _ = _; rw [HSZ.out]; rfl
      have HTI : Hid (Tis w S (is[k]) (cs k)) := hti
      have HPK : Hid ((is.map prt)[k]? = some (prt is[k])) := by show _ = _; rw [List.getElem?_map, List.getElem?_eq_getElem hlt]; rfl
      generalize is[k] = tk at *
      generalize cs k = ck at *
      have HLT := hide hlt
      obtain ⟨av, cv, hvv⟩ := own_slice7 HX.out.o
      subst hvv
      clear hform hcell hts hmk hti hnb e2 e3 hlt
      go_upto_region 8 with (first
        | (refine wpList_exec rfl (exec_valAt (g := b) (off := off + k * 13) (cs := ck) rfl rfl HSZ.out HCC.out) ?_)
        | (refine wpList_storeRow rfl rfl wx.heap.size zv ck 65 rfl rfl HNB.out HI5.out HZ5.out HA1.out ?_))
      (try simp only [Act.put]); (try simp only [List.setIfInBounds_toArray, List.set_cons_zero, List.set_cons_succ])
      unfold zv at HXN HVB
      generalize (wx.alloc (.cells #[.int .i64 0, .bool false, .bool false, .int .u64 0, .int .u64 0, .string ⟨#[]⟩, .slice none 0 0, .int .i64 0, .int .u64 0, .int .u64 0, .string ⟨#[]⟩, .slice none 0 0, .slice none 0 0] 65)).setRow wx.heap.size ck = wy at *
      have HVC : Hid (∀ j u, ck[j]? = some u → wy.cell? ⟨wx.heap.size, 0 + j, none⟩ = some u) := fun j u hu => by rw [Nat.zero_add]; exact blk_cell HVB.out hu
      have hwy := HXN.out.b
      have HTY : Hid (Tis wy (fun q => S q ∨ (Value.slice av k cv).ownBlock = some q) tk ck) := tis_live7 HTI.out (Kp.of_below hwy) (fun q hq => by
        rcases hq with e | e
        · exact .inl e
        · exact .inr (HXN.out.o.lt q e).1)
      have HPC := hide (partOf_any wy (fun q => S q ∨ (Value.slice av k cv).ownBlock = some q) (fun q hq => by
        rcases hq with e | e
        · exact Nat.lt_of_lt_of_le (HSq.out q e) hwy.size
        · exact (HXN.out.o.lt q e).2) tk ck HTY.out)
      clear hwy HX HCC HNB
      go_wp2_with (refine wpList_exec rfl (exec_valAt (g := wx.heap.size) (off := 0) (cs := ck) rfl rfl HSZ.out HVC.out) ?_)
      refine HPC.out.mono ?_
      rintro e w1 ⟨v1, rfl, hb1, hp1⟩
      obtain ⟨T1, x1, e1⟩ := pis_one hp1
      subst e1
      have hb2 := below_alloc4 w1 (.cells #[.iface T1 x1] 103)
      have HX2 := hide ((HXN.out.next hb1).next hb2)
      have HP2 := hide (hp1.live (Kp.of_below hb2) (fun _ hq => .inl hq))
      have HG2 := hide (heap_alloc_new w1 (.cells #[.iface T1 x1] 103))
      have HBz : Hid (w.heap.size ≤ (w1.alloc (.cells #[.iface T1 x1] 103)).heap.size) := HX2.out.b.size
      clear hb1 hp1 hb2 HPC HXN HVC HVB HTY
      go_wp2_with (at_builtin; refine append_parts rfl _ _ rfl w.heap.size _ k vs rfl HX2.out.o w1.heap.size 1 [.iface T1 x1] rfl rfl HG2.out (fun u hu => by rw [List.mem_singleton.1 hu]; rfl) (by omega) HBz.out ?_)
      intro v3 w3 h1 h2 h3
      have HX3 : Hid (Bl7 w w3 S (is.map prt) (k + 1) v3 (vs ++ [.iface T1 x1])) := HX2.out.add (us := [.iface T1 x1]) h1 h2 h3 (fun i p v hp hv => by
        cases i with
        | zero =>
          rw [Nat.add_zero, HPK.out] at hp
          injection hp with hp
          subst hp
          have e5 : v = .iface T1 x1 := by simpa using hv.symm
          rw [e5]
          exact HP2.out
        | succ i => simp at hv)
      obtain ⟨a3, c3, hv3⟩ := own_slice7 HX3.out.o
      subst hv3
      clear h1 h2 h3 HX2 HP2 HG2 HBz
      go_wp2_with fail
      go_roundw
      case rel => exact ⟨k + 1, _, by have := HLT.out; omega, by go_num, HX3⟩
      case measure => have := HLT.out; simp [intOf]; omega
    · as_aux_lemma =>
      have g1 : ¬ (k : Int) < (is.length : Int) := by omega
      have HF : Hid (BelP w S (is.map prt) (.returned u3) wx) := HX.out.out (by rw [List.length_map]; omega)
      clear hlt
      go_wp2_with fail
      go_ret
      exact HF.out
end
section
open Go.RowKit Go
theorem row_mk7 (w : World) (z c : Array Value) (t : TypeId) : Below w.heap.size w ((w.alloc (.cells z t)).setRow w.heap.size c) ∧ ((w.alloc (.cells z t)).setRow w.heap.size c).heap[w.heap.size]? = some (.cells c t (0, 0)) :=
  ⟨(below_alloc4 w _).trans ((row_kp _ _ _).below (below_alloc4 w _).size (fun q e => by omega)), row_same (heap_alloc_new w _)⟩
theorem pairs_get {γ δ : Type} (A B : γ → δ) : ∀ (l : List γ) (i : Nat), (l.flatMap fun x => [A x, B x])[2 * i]? = (l[i]?).map A ∧ (l.flatMap fun x => [A x, B x])[2 * i + 1]? = (l[i]?).map B
  | [], i => by simp
  | x :: r, 0 => by simp
  | x :: r, i + 1 => by
    have h := pairs_get A B r i
    rw [List.flatMap_cons]
    constructor
    · rw [List.getElem?_append_right (by show 2 ≤ _; omega)]
      show (r.flatMap _)[2 * (i + 1) - 2]? = _
      rw [show 2 * (i + 1) - 2 = 2 * i by omega, h.1]
      simp
    · rw [List.getElem?_append_right (by show 2 ≤ _; omega)]
      show (r.flatMap _)[2 * (i + 1) + 1 - 2]? = _
      rw [show 2 * (i + 1) + 1 - 2 = 2 * i + 1 by omega, h.2]
      simp
theorem pairs_len {γ δ : Type} (A B : γ → δ) : ∀ (l : List γ), (l.flatMap fun x => [A x, B x]).length = 2 * l.length
  | [] => rfl
  | x :: r => by
    have h := pairs_len A B r
    rw [List.flatMap_cons, List.length_append, h]
    show 2 + 2 * r.length = 2 * (r.length + 1)
    omega
set_option maxRecDepth 1000000 in
set_option maxHeartbeats 4000000 in
theorem below_entries (w : World) (S : Nat → Prop) (hS : ∀ q, S q → q < w.heap.size) (ks : List ByteArray) (is : List Tv) (v : Value) (hp : Pis w S (.entries ks is) v) (hil : is.length ≤ 1000000000) (hkl : ks.length = is.length) :
    Calls Tryz.prog 92 #[v] w (BelP w S (pbl (.entries ks is))) := by
  obtain ⟨vk, vi, e, hk, hks, hv⟩ := hp
  subst e
  have HV := hide hv
  have HK := hide hk
  have HSq := hide hS
  obtain ⟨⟨a, cap, cx, rfl, hcc, -, -⟩, hmx⟩ := hv
  obtain ⟨⟨ak, ck, rfl, hkc, hkf⟩, hkm, hkz⟩ := hk
  have HKF := hide hkf
  have HKZ := hide hkz
  have t1 : ∀ w, (Instr.typeAssert (.iface 129 (.agg #[.slice ak ks.length ck, .slice a is.length cap])) 103 127 true).run Tryz.prog w = .ok (.tuple #[.slice none 0 0, .bool false]) w := fun _ => by kernel_rfl
  have t2 : ∀ w, (Instr.typeAssert (.iface 129 (.agg #[.slice ak ks.length ck, .slice a is.length cap])) 103 129 true).run Tryz.prog w = .ok (.tuple #[.agg #[.slice ak ks.length ck, .slice a is.length cap], .bool true]) w := fun _ => by kernel_rfl
  have HPS : Hid (pbl (.entries ks is) = (ks.zip is).flatMap fun x => [.text x.1, prt x.2]) := rfl
  generalize pbl (.entries ks is) = ps at *
  have HPL : Hid (ps.length = 2 * is.length) := by show _ = _; rw [HPS.out, pairs_len, List.length_zip]; omega
  have HKL := hide hkl
  have hkk : ks.length ≤ 1000000000 := by omega
  have hb0 := row_mk7 w #[.slice none 0 0, .slice none 0 0] #[.slice ak ks.length ck, .slice a is.length cap] 129
  have HN0 := hide (heap_alloc_new w (.cells #[.slice none 0 0, .slice none 0 0] 129))
  have HBZ := hide hb0.1
  have HG0 := hide hb0.2
  have HIE : Hid ((Tryz.prog.info? 129).map (·.size) = some (#[.slice ak ks.length ck, .slice a is.length cap] : Array Value).size) := by show _ = _; kernel_rfl
  have HAE : Hid ((#[.slice ak ks.length ck, .slice a is.length cap] : Array Value).all (·.oneCell') = true) := by
    show _ = _
    rw [Array.all_eq_true']
    intro u hu
    simp only [List.mem_toArray, List.mem_cons, List.not_mem_nil, or_false] at hu
    rcases hu with rfl | rfl <;> rfl
  clear hS hcc hmx hks hkc hkf hkm hkz hkl hil hb0
  go_enter Tryz.func92, Tryz.ntmps92
  go_upto_region 12 with (refine wpList_storeRow rfl rfl w.heap.size #[.slice none 0 0, .slice none 0 0] #[.slice ak ks.length ck, .slice a is.length cap] 129 rfl rfl HN0.out HIE.out rfl HAE.out ?_)
  (try simp only [Act.put]); (try simp only [List.setIfInBounds_toArray, List.set_cons_zero, List.set_cons_succ])
  generalize (w.alloc (.cells #[.slice none 0 0, .slice none 0 0] 129)).setRow w.heap.size #[.slice ak ks.length ck, .slice a is.length cap] = w0 at *
  have HB0 : Hid (Bl7 w w0 S ps 0 (.slice none 0 0) []) := ⟨HBZ.out, World.ownsRow_nil _ _ _ _, fun i p v hi => by omega⟩
  have q0 : w0.cell? ⟨w.heap.size, 0, none⟩ = some (.slice ak ks.length ck) := blk_cell (j := 0) HG0.out rfl
  clear t1 t2 HN0
  go_wp2_with fail
  clear q0
  go_loopw [3, 32] (fun vp kk wx => ∃ (k : Nat) (vs : List Value), k ≤ ks.length ∧ kk = .int .i64 (k : Nat) ∧ Hid (Bl7 w wx S ps (2 * k) vp vs ∧ wx.heap[w.heap.size]? = some (.cells #[.slice ak ks.length ck, .slice a is.length cap] 129 (0, 0)))) (fun _ kk _ => ks.length - (intOf kk).toNat)
  case atStart => exact ⟨0, [], by omega, rfl, hide ⟨HB0.out, HG0.out⟩⟩
  case round =>
    rename World => wx
    obtain ⟨k, vs, hk, rfl, HX⟩ := hrel
    clear HB0 HG0 HBZ
    by_cases hlt : k < ks.length
    · as_aux_lemma =>
      have g1 : (k : Int) < (ks.length : Int) := by omega
      have hil : k < is.length := by have := HKL.out; omega
      have g2 : (k : Int) < (is.length : Int) := by omega
      obtain ⟨⟨a', cap', cs, hva, -, hts, hform⟩, -⟩ := HV.out
      injection hva with e1 e2 e3
      subst e1
      obtain ⟨b, off, ha, hnb, hcell⟩ := hform.resolve_left (fun e => by rw [e] at hil; simp at hil)
      subst ha
      obtain ⟨bk, offk, hak, hkc⟩ := HKF.out.resolve_left (fun e => by rw [e] at hlt; simp at hlt)
      subst hak
      have hti := hts k _ (List.getElem?_eq_getElem hil)
      have HSZ := hide hti.tin.size13
      have HCC : Hid (∀ j u, (cs k)[j]? = some u → wx.cell? ⟨b, off + k * 13 + j, none⟩ = some u) := fun j u hu => keep_below HX.out.1.b _ _ (hcell k hil j u hu)
      have ck0 : wx.cell? ⟨bk, offk + k, none⟩ = some (.string ks[k]) := keep_below HX.out.1.b _ _ (hkc k _ (List.getElem?_eq_getElem hlt))
      have qx : wx.cell? ⟨w.heap.size, 1, none⟩ = some (.slice (some ⟨b, off, none⟩) is.length cap) := blk_cell (j := 1) HX.out.2 rfl
      have HTI : Hid (Tis w S (is[k]) (cs k)) := hti
      have hz : (ks.zip is)[k]? = some (ks[k], is[k]) := by rw [List.getElem?_zip_eq_some]; exact ⟨List.getElem?_eq_getElem hlt, List.getElem?_eq_getElem hil⟩
      have HPK : Hid (ps[2 * k]? = some (.text ks[k]) ∧ ps[2 * k + 1]? = some (prt is[k])) := by
        have h := pairs_get (fun x : ByteArray × Tv => Prt.text x.1) (fun x => prt x.2) (ks.zip is) k
        rw [hz] at h
        show _ ∧ _
        rw [HPS.out]
        exact h
      have HSK := hide (HKZ.out _ (List.getElem_mem hlt))
      generalize ks[k] = key at *
      generalize is[k] = tk at *
      generalize cs k = cc at *
      have HLT := hide hlt
      obtain ⟨av, cv, hvv⟩ := own_slice7 HX.out.1.o
      subst hvv
      have hwx := HX.out.1.b
      have HTY : Hid (Tis wx (fun q => S q ∨ (Value.slice av (2 * k) cv).ownBlock = some q) tk cc) := tis_live7 HTI.out (Kp.of_below hwx) (fun q hq => by
        rcases hq with e | e
        · exact .inl e
        · exact .inr (HX.out.1.o.lt q e).1)
      have HPC := hide (partOf_any wx (fun q => S q ∨ (Value.slice av (2 * k) cv).ownBlock = some q) (fun q hq => by
        rcases hq with e | e
        · exact Nat.lt_of_lt_of_le (HSq.out q e) hwx.size
        · exact (HX.out.1.o.lt q e).2) tk cc HTY.out)
      clear hform hcell hts hti hnb e2 e3 hlt hil hkc hz hwx
      go_wp2_with (refine wpList_exec rfl (exec_valAt (g := b) (off := off + k * 13) (cs := cc) rfl rfl HSZ.out HCC.out) ?_)
      refine HPC.out.mono ?_
      rintro e w1 ⟨v1, rfl, hb1, hp1⟩
      obtain ⟨T1, x1, e1⟩ := pis_one hp1
      subst e1
      have hb2 := below_alloc4 w1 (.cells #[.iface 124 (.string key), .iface T1 x1] 103)
      have HX2 := hide ((HX.out.1.next hb1).next hb2)
      have HE2 : Hid ((w1.alloc (.cells #[.iface 124 (.string key), .iface T1 x1] 103)).heap[w.heap.size]? = some (.cells #[.slice (some ⟨bk, offk, none⟩) ks.length ck, .slice (some ⟨b, off, none⟩) is.length cap] 129 (0, 0))) := by
        have h3 := (hb1.block _ (blk_lt HX.out.2)).trans HX.out.2
        exact (hb2.block _ (blk_lt h3)).trans h3
      have HP2 := hide (hp1.live (Kp.of_below hb2) (fun _ hq => .inl hq))
      have HG2 := hide (heap_alloc_new w1 (.cells #[.iface 124 (.string key), .iface T1 x1] 103))
      have HBz : Hid (w.heap.size ≤ (w1.alloc (.cells #[.iface 124 (.string key), .iface T1 x1] 103)).heap.size) := HX2.out.b.size
      clear hb1 hp1 hb2 HPC HTY ck0 qx
      go_wp2_with (at_builtin; refine append_parts rfl _ _ rfl w.heap.size _ (2 * k) vs rfl HX2.out.o w1.heap.size 2 [.iface 124 (.string key), .iface T1 x1] rfl rfl HG2.out (fun u hu => by simp at hu; rcases hu with e | e <;> (rw [e]; rfl)) (by omega) HBz.out ?_)
      intro v3 w3 h1 h2 h3
      have HX3 : Hid (Bl7 w w3 S ps (2 * (k + 1)) v3 (vs ++ [.iface 124 (.string key), .iface T1 x1])) := HX2.out.add (m := 2) (us := [.iface 124 (.string key), .iface T1 x1]) h1 h2 h3 (fun i p v hp hv => by
        match i, hp, hv with
        | 0, hp, hv =>
          rw [Nat.add_zero, HPK.out.1] at hp
          injection hp with hp
          subst hp
          have e5 : v = .iface 124 (.string key) := by simpa using hv.symm
          rw [e5]
          exact ⟨rfl, HSK.out⟩
        | 1, hp, hv =>
          rw [HPK.out.2] at hp
          injection hp with hp
          subst hp
          have e5 : v = .iface T1 x1 := by simpa using hv.symm
          rw [e5]
          exact HP2.out
        | i + 2, hp, hv => simp at hv)
      have HE3 : Hid (w3.heap[w.heap.size]? = some (.cells #[.slice (some ⟨bk, offk, none⟩) ks.length ck, .slice (some ⟨b, off, none⟩) is.length cap] 129 (0, 0))) := ((kp_grown h2).block _ (blk_lt HE2.out) (own_not HX2.out.o HE2.out (by decide))).trans HE2.out
      obtain ⟨a3, c3, hv3⟩ := own_slice7 HX3.out.o
      subst hv3
      clear h1 h2 h3 HX2 HP2 HG2 HBz HE2 HX HCC
      go_wp2_with fail
      go_roundw
      case rel => exact ⟨k + 1, _, by have := HLT.out; omega, by go_num, hide ⟨HX3.out, HE3.out⟩⟩
      case measure => have := HLT.out; simp [intOf]; omega
    · as_aux_lemma =>
      have g1 : ¬ (k : Int) < (ks.length : Int) := by omega
      have HF : Hid (BelP w S ps (.returned u3) wx) := HX.out.1.out (by rw [HPL.out]; have := HKL.out; omega)
      clear hlt
      go_wp2_with fail
      go_ret
      exact HF.out
end
end Go.Proofs.YtjlknnpgngaooaaGreatDoor
