import Derived.Test.YtmcamdcgnegmmaaGreatDoorJb
import Derived.Test.YtmcamdcgnegmmaaGreatDoorJc
import Derived.Test.YtmcamdcgnegmmaaGreatDoorJa
import Derived.Laws.Rows
import Derived.Defers
import Derived.Recover
import Derived.Great.BuildSlice
import Derived.Great.FillDense
import Derived.Maps.AppendAt
set_option maxRecDepth 1000000
set_option maxHeartbeats 16000000
namespace Go.Proofs.YtmcamdcgnegmmaaGreatDoor
section
open Go.RowKit Go
def rcl (C : Array Value) (p op : Nat) : Array Value := (C.setIfInBounds 1 (.int .i64 (p : Nat))).setIfInBounds 3 (.int .i64 (op : Nat))
structure Rdr (w : World) (g : Nat) (T : TypeId) (C : Array Value) (v : Value) (b : List Nat) (dp p op : Nat) : Prop where
  blk : w.heap[g]? = some (.cells (rcl C p op) T (0, 0))
  z : 4 ≤ C.size
  c0 : C[0]? = some v
  c2 : C[2]? = some (.int .i64 (dp : Nat))
  bs : ∀ wy, Kp (fun q => q = g) w wy → BSl wy v b
  hb : b.length ≤ 140737488351232
  hp : p ≤ b.length
  ho : op ≤ dp ∧ dp ≤ 1024
theorem Rdr.next {w w' : World} {g : Nat} {T : TypeId} {C : Array Value} {v : Value} {b : List Nat} {dp p op : Nat} (h : Rdr w g T C v b dp p op) (hb : Below w.heap.size w w') : Rdr w' g T C v b dp p op :=
  ⟨(hb.block _ (blk_lt h.blk)).trans h.blk, h.z, h.c0, h.c2, fun wy hy => h.bs wy (((Kp.of_below (S := fun _ => False) hb).mono (fun _ _ e => e.elim)).trans hy (fun _ _ e => e)), h.hb, h.hp, h.ho⟩
theorem rcl_0 {C : Array Value} {p op : Nat} {v : Value} (h : C[0]? = some v) : (rcl C p op)[0]? = some v := by
  unfold rcl
  rw [Array.getElem?_setIfInBounds_ne (by decide), Array.getElem?_setIfInBounds_ne (by decide)]
  exact h
theorem rcl_2 {C : Array Value} {p op : Nat} {v : Value} (h : C[2]? = some v) : (rcl C p op)[2]? = some v := by
  unfold rcl
  rw [Array.getElem?_setIfInBounds_ne (by decide), Array.getElem?_setIfInBounds_ne (by decide)]
  exact h
theorem rcl_1 {C : Array Value} {p op : Nat} (h : 4 ≤ C.size) : (rcl C p op)[1]? = some (.int .i64 (p : Nat)) := by
  unfold rcl
  rw [Array.getElem?_setIfInBounds_ne (by decide), Array.getElem?_setIfInBounds_self_of_lt (by omega)]
theorem rcl_3 {C : Array Value} {p op : Nat} (h : 4 ≤ C.size) : (rcl C p op)[3]? = some (.int .i64 (op : Nat)) := by
  unfold rcl
  rw [Array.getElem?_setIfInBounds_self_of_lt (by simp; omega)]
def LokP (w : World) (r : Lx HR) (e : Ending) (w' : World) : Prop := Below w.heap.size w w' ∧ ((∃ h, r = .ok h ∧ e = .returned h.val) ∨ ∃ c q, r = .error (c, q) ∧ e = gup c q)
theorem hrd_bd9 {b : List Nat} (hb : ∀ x ∈ b, x < 256) : (hrd b).n < 18446744073709551616 ∧ (hrd b).m ≤ 7 ∧ (hrd b).i ≤ 31 := by
  cases b with
  | nil => exact ⟨by decide, by decide, by decide⟩
  | cons x r =>
    have hx := hb x (List.mem_cons_self ..)
    rw [hrd_cons]
    unfold hrdc
    by_cases h1 : 27 < x % 32
    · rw [if_pos h1]
      by_cases h2 : x % 32 = 31 ∧ x / 32 ≠ 0 ∧ x / 32 ≠ 1 ∧ x / 32 ≠ 6
      · rw [if_pos h2]
        exact ⟨by show 0 < _; decide, by show x / 32 ≤ 7; omega, by show 31 ≤ 31; decide⟩
      · rw [if_neg h2]
        exact ⟨by decide, by decide, by decide⟩
    · rw [if_neg h1]
      by_cases h2 : x % 32 < 24
      · rw [if_pos h2]
        exact ⟨by show x % 32 < _; omega, by show x / 32 ≤ 7; omega, by show x % 32 ≤ 31; omega⟩
      · rw [if_neg h2]
        by_cases h3 : r.length < hwide (x % 32)
        · rw [if_pos h3]
          exact ⟨by decide, by decide, by decide⟩
        · rw [if_neg h3]
          by_cases h4 : x / 32 = 7 ∧ x % 32 = 24 ∧ bnum 0 (r.take (hwide (x % 32))) < 32
          · rw [if_pos h4]
            exact ⟨by decide, by decide, by decide⟩
          · rw [if_neg h4]
            refine ⟨?_, by show x / 32 ≤ 7; omega, by show x % 32 ≤ 31; omega⟩
            show bnum 0 (r.take (hwide (x % 32))) < _
            have h5 := bnum_lt (r.take (hwide (x % 32))) 0 (fun y hy => hb y (List.mem_cons_of_mem _ (List.mem_of_mem_take hy)))
            have h6 : (r.take (hwide (x % 32))).length ≤ 8 := by rw [List.length_take]; have := hwide_le (x % 32); omega
            have h7 : 256 ^ (r.take (hwide (x % 32))).length ≤ 256 ^ 8 := Nat.pow_le_pow_right (by decide) h6
            have h8 : (256 : Nat) ^ 8 = 18446744073709551616 := by decide
            omega
theorem infoHd : (Tryz.prog.info? 66).map (·.size) = some 5 := by kernel_rfl
theorem aggHd (w : World) : (isAgg 66).run Tryz.prog w = .ok true w := by
  unfold isAgg
  rw [Sem.run_bind, run_underlying Tryz.underlying66 w]
  simp
theorem end_h9 {wx : World} {R : Nat} {c : Array Value} {fn : Func} {p : Tmp} {tmps : Array Value} (hf : fn.results = #[.cell p 66]) (hr : wx.heap[R]? = some (.cells c 66 (0, 0))) (hp : tmps.getD p undef = .pointer (some ⟨R, 0, none⟩)) (hn : c.size = 5) : (results fn tmps).run Tryz.prog wx = .ok (.agg c) wx :=
  results_cell_row hf tmps wx R 66 c (0, 0) _ hp hr Tryz.underlying66 rfl (by rw [hn]; exact infoHd)
theorem look9_any {w : World} {g : Nat} {T : TypeId} {C : Array Value} {v : Value} {b : List Nat} {dp p op : Nat} (hR : Rdr w g T C v b dp p op) : Calls Tryz.prog 34 #[.pointer (some ⟨g, 0, none⟩)] w (LokP w (llook b dp p op)) := by
  have hb0 := below_alloc4 w (.cells #[.int .i64 0, .int .i64 0, .int .u64 0, .int .i64 0, .bool false] 66)
  have HB0 := hide hb0
  have HR := hide (hR.next hb0)
  have HR0 := hide (heap_alloc_new w (.cells #[.int .i64 0, .int .i64 0, .int .u64 0, .int .i64 0, .bool false] 66))
  have hbs := hR.bs w (Kp.refl _ _)
  have HBY := hide hbs.byte
  have HPB := hide hR.hp
  have HBL := hide hR.hb
  obtain ⟨⟨a, cap, rfl, hn, hz⟩, _, _⟩ := hbs
  have HNC : Hid (b.length ≤ cap ∧ (a = none → cap = 0)) := hn
  clear hR hb0 hn hz
  go_enter Tryz.func34, Tryz.ntmps34
  go_upto_region 1 with fail
  generalize w.alloc (.cells #[.int .i64 0, .int .i64 0, .int .u64 0, .int .i64 0, .bool false] 66) = w0 at *
  have HDR : Hid (∀ wy, Below w0.heap.size w0 wy → BSl wy (dropS a b.length cap p) (b.drop p)) := fun wy hy => bsl_drop8 (k := p) ((HR.out.next hy).bs wy (Kp.refl _ _)) HPB.out
  obtain ⟨a2, n2, c2, hd2, hlen⟩ : ∃ a2 n2 c2, dropS a b.length cap p = .slice a2 n2 c2 ∧ n2 = b.length - p := by
    obtain ⟨⟨a2, c2, h1, h2, _⟩, _⟩ := HDR.out w0 (Below.refl _ _)
    exact ⟨a2, _, c2, h1, List.length_drop⟩
  rw [hd2] at HDR
  have HLN2 : Hid ((b.drop p).length = n2) := by show _ = _; rw [List.length_drop]; exact hlen.symm
  have HLEN := hide hlen
  clear hlen
  have x0 : ∀ t' : Ext w0, t'.w'.cell? ⟨g, 0, none⟩ = some (.slice a b.length cap) := fun t' => keep_below t'.h _ _ (blk_cell HR.out.blk (rcl_0 HR.out.c0))
  have x1 : ∀ t' : Ext w0, t'.w'.cell? ⟨g, 1, none⟩ = some (.int .i64 (p : Nat)) := fun t' => keep_below t'.h _ _ (blk_cell HR.out.blk (rcl_1 HR.out.z))
  refine region_ext (by kernel_rfl) (by kernel_rfl) ?_
  with_reducible refine wpQuiet_step (fun K hK => ?_)
  go_simp
  with_reducible refine hK _ ?_
  clear hK K
  with_reducible refine wpQuiet_step (fun K hK => ?_)
  go_simp
  with_reducible refine hK _ ?_
  clear hK K
  with_reducible refine wpQuiet_step (fun K hK => ?_)
  go_simp
  with_reducible refine hK _ ?_
  clear hK K
  with_reducible refine wpQuiet_step (fun K hK => ?_)
  go_simp
  with_reducible refine hK _ ?_
  clear hK K
  with_reducible refine wpQuiet_step (fun K hK => ?_)
  go_simp
  with_reducible refine hK _ ?_
  clear hK K
  with_reducible refine wpQuiet_step (fun K hK => ?_)
  go_simp
  with_reducible refine hK _ ?_
  clear hK K
  with_reducible refine wpQuiet_step (fun K hK => ?_)
  go_simp
  with_reducible refine hK _ ?_
  clear hK K
  with_reducible refine wpQuiet_step (fun K hK => ?_)
  go_simp
  with_reducible refine hK _ ?_
  clear hK K
  with_reducible refine wpQuiet_step (fun K hK => ?_)
  refine qstep_exec rfl (.slice a2 n2 c2) (fun wq hq => by rw [← hd2]; exact exec_drop rfl rfl rfl HPB.out HNC.out.1 HNC.out.2) (hK _ ?_)
  clear hK K
  with_reducible refine wpQuiet_step (fun K hK => ?_)
  go_simp
  with_reducible refine hK _ ?_
  clear hK K
  refine wpQuiet_nil ?_
  rintro wx ⟨t2, rfl⟩
  have HB1 : Hid (Below w0.heap.size w0 t2.w') := t2.h
  clear x0 x1 hd2
  go_upto_region 2 with fail
  generalize t2.w' = w1 at *
  have HR1 := hide (HR.out.next HB1.out)
  have HDR1 : Hid (∀ wy, Below w1.heap.size w1 wy → BSl wy (.slice a2 n2 c2) (b.drop p)) := fun wy hy => HDR.out wy (HB1.out.trans (hy.mono HB1.out.size))
  obtain ⟨cb, hcb⟩ : ∃ cb : Bool, cb = (lnh (b.drop p) && decide (op = dp)) := ⟨_, rfl⟩
  have HCB := hide hcb
  clear hcb HDR
  go_cut [34] from 15 to 35 (fun v wx => v = .bool cb ∧ Hid (Below w1.heap.size w1 wx))
  case first =>
    as_aux_lemma =>
    have hbd : Below w1.heap.size w1 w1.drew := Below.drew (Below.refl _ _)
    by_cases hne : p < b.length
    · obtain ⟨x, r, hxr⟩ : ∃ x r, b.drop p = x :: r := by
        cases h : b.drop p with
        | nil => have := HLN2.out; rw [h] at this; have hl := HLEN.out; simp at this; omega
        | cons x r => exact ⟨x, r, rfl⟩
      have hx : x < 256 := HBY.out x (List.mem_of_mem_drop (i := p) (by rw [hxr]; exact List.mem_cons_self ..))
      obtain ⟨bk, off, ha2⟩ : ∃ bk off, a2 = some ⟨bk, off, none⟩ := by
        obtain ⟨a', c', e, _, hc⟩ := (HDR1.out w1 (Below.refl _ _)).form
        injection e with e1 _ _
        obtain ⟨bk, off, e4, _⟩ := hc.resolve_left (fun h => by rw [h] at hxr; cases hxr)
        exact ⟨bk, off, e1.trans e4⟩
      subst ha2
      have HCX : Hid (∀ wy, Below w1.heap.size w1 wy → wy.cell? ⟨bk, off, none⟩ = some (.int .u8 (x : Nat))) := fun wy hy => by
        obtain ⟨a', c', e, _, hc⟩ := (HDR1.out wy hy).form
        injection e with e1 _ _
        obtain ⟨bk', off', e4, h4⟩ := hc.resolve_left (fun h => by rw [h] at hxr; cases hxr)
        have e5 := Option.some.inj (e1.trans e4)
        injection e5 with e6 e7 _
        subst e6
        subst e7
        have h5 := h4 0 (by rw [HLN2.out]; have := HLEN.out; omega)
        rw [hxr] at h5
        simpa using h5
      have HC3 : Hid (∀ wy, Below w1.heap.size w1 wy → wy.cell? ⟨g, 3, none⟩ = some (.int .i64 (op : Nat))) := fun wy hy => keep_below hy _ _ (blk_cell HR1.out.blk (rcl_3 HR1.out.z))
      have HC2 : Hid (∀ wy, Below w1.heap.size w1 wy → wy.cell? ⟨g, 2, none⟩ = some (.int .i64 (dp : Nat))) := fun wy hy => keep_below hy _ _ (blk_cell HR1.out.blk (rcl_2 HR1.out.c2))
      have g1 : (0 : Int) < (n2 : Int) := by have := HLEN.out; omega
      have g3 : 0 < n2 := by have := HLEN.out; omega
      have HLN : Hid (lnh (b.drop p) = lnest x) := by show _ = _; rw [hxr]; rfl
      rw [HLN.out] at HCB
      clear hxr
      go_wp2_with fail
      refine heldStart (S := fun wy => Below w1.heap.size w1 wy) (by kernel_rfl) ?_
      have hS := hbd
      clear hbd
      generalize w1.drew = w2 at *
      refine heldTake 0 _ rfl (by kernel_rfl) (by kernel_rfl) (by kernel_rfl) (fun _ _ _ h => h) rfl hS (fun wy hy => by first | (go_simp; done) | (go_simp; rfl) | rfl) ?_
      (try simp only [Act.put]); (try simp only [LsA, Ls0, LsS])
      refine heldTake 1 _ rfl (by kernel_rfl) (by kernel_rfl) (by kernel_rfl) (fun _ _ _ h => h) rfl hS (fun wy hy => by first | (go_simp; done) | (go_simp; rfl) | rfl) ?_
      (try simp only [Act.put]); (try simp only [LsA, Ls0, LsS])
      refine heldTake 2 (.bool true) rfl (by kernel_rfl) (by kernel_rfl) (by kernel_rfl) (fun _ _ _ h => h) rfl hS (fun wy hy => by go_simp; try simp [g1]) ?_
      (try simp only [Act.put]); (try simp only [LsA, Ls0, LsS])
      refine heldTake 3 _ rfl (by kernel_rfl) (by kernel_rfl) (by kernel_rfl) (fun _ _ _ h => h) rfl hS (fun wy hy => by first | (go_simp; done) | (go_simp; rfl) | rfl) ?_
      (try simp only [Act.put]); (try simp only [LsA, Ls0, LsS])
      refine heldTake 4 _ rfl (by kernel_rfl) (by kernel_rfl) (by kernel_rfl) (fun _ _ _ h => h) rfl hS (fun wy hy => by first | (go_simp; done) | (go_simp; rfl) | rfl) ?_
      (try simp only [Act.put]); (try simp only [LsA, Ls0, LsS])
      refine heldTake 5 _ rfl (by kernel_rfl) (by kernel_rfl) (by kernel_rfl) (fun _ _ _ h => h) rfl hS (fun wy hy => by first | (go_simp; done) | (go_simp; rfl) | rfl) ?_
      (try simp only [Act.put]); (try simp only [LsA, Ls0, LsS])
      refine heldTake 6 _ rfl (by kernel_rfl) (by kernel_rfl) (by kernel_rfl) (fun _ _ _ h => h) rfl hS (fun wy hy => by have h0 := HCX.out wy hy; first | (go_simp; done) | (go_simp; rfl) | rfl) ?_
      (try simp only [Act.put]); (try simp only [LsA, Ls0, LsS])
      refine heldStep 7 rfl (by kernel_rfl) (fun K1 hK1 => ?_)
      go_simp
      refine (nests9_any _ x hx).mono ?_
      rintro e v1 ⟨rfl, hv1⟩
      have hv1 := hv1.symm
      subst hv1
      have hS1 := hS
      refine (Hid.out hK1) _ _ hS1 (fun hS2 => ?_)
      clear hK1 K1 hS
      have hS := hS2
      clear hS2
      (try simp only [Act.put]); (try simp only [LsA, Ls0, LsS])
      clear hS1
      generalize hlx : lnest x = nx at *
      have HLX := hide hlx
      clear hlx
      cases nx with
      | false =>
        have hcb : cb = false := by rw [HCB.out]; rfl
        subst hcb
        refine heldTake 8 _ rfl (by kernel_rfl) (by kernel_rfl) (by kernel_rfl) (fun _ _ _ h => h) rfl hS (fun wy hy => by first | (go_simp; done) | (go_simp; rfl) | rfl) ?_
        (try simp only [Act.put]); (try simp only [LsA, Ls0, LsS])
        refine heldTake 9 _ rfl (by kernel_rfl) (by kernel_rfl) (by kernel_rfl) (fun _ _ _ h => h) rfl hS (fun wy hy => by first | (go_simp; done) | (go_simp; rfl) | rfl) ?_
        (try simp only [Act.put]); (try simp only [LsA, Ls0, LsS])
        refine heldSkip 10 rfl (by kernel_rfl) (by kernel_rfl) (by kernel_rfl) (fun _ _ _ h => h) rfl hS ?_
        (try simp only [Act.put]); (try simp only [LsA, Ls0, LsS])
        refine heldSkip 11 rfl (by kernel_rfl) (by kernel_rfl) (by kernel_rfl) (fun _ _ _ h => h) rfl hS ?_
        (try simp only [Act.put]); (try simp only [LsA, Ls0, LsS])
        refine heldSkip 12 rfl (by kernel_rfl) (by kernel_rfl) (by kernel_rfl) (fun _ _ _ h => h) rfl hS ?_
        (try simp only [Act.put]); (try simp only [LsA, Ls0, LsS])
        refine heldSkip 13 rfl (by kernel_rfl) (by kernel_rfl) (by kernel_rfl) (fun _ _ _ h => h) rfl hS ?_
        (try simp only [Act.put]); (try simp only [LsA, Ls0, LsS])
        refine heldSkip 14 rfl (by kernel_rfl) (by kernel_rfl) (by kernel_rfl) (fun _ _ _ h => h) rfl hS ?_
        (try simp only [Act.put]); (try simp only [LsA, Ls0, LsS])
        refine heldSkip 15 rfl (by kernel_rfl) (by kernel_rfl) (by kernel_rfl) (fun _ _ _ h => h) rfl hS ?_
        (try simp only [Act.put]); (try simp only [LsA, Ls0, LsS])
        refine heldSkip 16 rfl (by kernel_rfl) (by kernel_rfl) (by kernel_rfl) (fun _ _ _ h => h) rfl hS ?_
        (try simp only [Act.put]); (try simp only [LsA, Ls0, LsS])
        refine heldSkip 17 rfl (by kernel_rfl) (by kernel_rfl) (by kernel_rfl) (fun _ _ _ h => h) rfl hS ?_
        (try simp only [Act.put]); (try simp only [LsA, Ls0, LsS])
        refine heldSkip 18 rfl (by kernel_rfl) (by kernel_rfl) (by kernel_rfl) (fun _ _ _ h => h) rfl hS ?_
        (try simp only [Act.put]); (try simp only [LsA, Ls0, LsS])
        refine heldTake 19 _ rfl (by kernel_rfl) (by kernel_rfl) (by kernel_rfl) (fun _ _ _ h => h) rfl hS (fun wy hy => by first | (go_simp; done) | (go_simp; rfl) | rfl) ?_
        (try simp only [Act.put]); (try simp only [LsA, Ls0, LsS])
        refine heldDone (by kernel_rfl) ?_
        have HS := hide hS
        clear hS
        go_wp2_with fail
        go_meet
        case rel => exact ⟨rfl, HS⟩
      | true =>
        have hcb : cb = decide (op = dp) := by rw [HCB.out]; rfl
        subst hcb
        refine heldTake 8 _ rfl (by kernel_rfl) (by kernel_rfl) (by kernel_rfl) (fun _ _ _ h => h) rfl hS (fun wy hy => by first | (go_simp; done) | (go_simp; rfl) | rfl) ?_
        (try simp only [Act.put]); (try simp only [LsA, Ls0, LsS])
        refine heldTake 9 _ rfl (by kernel_rfl) (by kernel_rfl) (by kernel_rfl) (fun _ _ _ h => h) rfl hS (fun wy hy => by first | (go_simp; done) | (go_simp; rfl) | rfl) ?_
        (try simp only [Act.put]); (try simp only [LsA, Ls0, LsS])
        refine heldTake 10 _ rfl (by kernel_rfl) (by kernel_rfl) (by kernel_rfl) (fun _ _ _ h => h) rfl hS (fun wy hy => by first | (go_simp; done) | (go_simp; rfl) | rfl) ?_
        (try simp only [Act.put]); (try simp only [LsA, Ls0, LsS])
        refine heldTake 11 _ rfl (by kernel_rfl) (by kernel_rfl) (by kernel_rfl) (fun _ _ _ h => h) rfl hS (fun wy hy => by first | (go_simp; done) | (go_simp; rfl) | rfl) ?_
        (try simp only [Act.put]); (try simp only [LsA, Ls0, LsS])
        refine heldTake 12 _ rfl (by kernel_rfl) (by kernel_rfl) (by kernel_rfl) (fun _ _ _ h => h) rfl hS (fun wy hy => by first | (go_simp; done) | (go_simp; rfl) | rfl) ?_
        (try simp only [Act.put]); (try simp only [LsA, Ls0, LsS])
        refine heldTake 13 _ rfl (by kernel_rfl) (by kernel_rfl) (by kernel_rfl) (fun _ _ _ h => h) rfl hS (fun wy hy => by have h0 := HC3.out wy hy; first | (go_simp; done) | (go_simp; rfl) | rfl) ?_
        (try simp only [Act.put]); (try simp only [LsA, Ls0, LsS])
        refine heldTake 14 _ rfl (by kernel_rfl) (by kernel_rfl) (by kernel_rfl) (fun _ _ _ h => h) rfl hS (fun wy hy => by first | (go_simp; done) | (go_simp; rfl) | rfl) ?_
        (try simp only [Act.put]); (try simp only [LsA, Ls0, LsS])
        refine heldTake 15 _ rfl (by kernel_rfl) (by kernel_rfl) (by kernel_rfl) (fun _ _ _ h => h) rfl hS (fun wy hy => by first | (go_simp; done) | (go_simp; rfl) | rfl) ?_
        (try simp only [Act.put]); (try simp only [LsA, Ls0, LsS])
        refine heldTake 16 _ rfl (by kernel_rfl) (by kernel_rfl) (by kernel_rfl) (fun _ _ _ h => h) rfl hS (fun wy hy => by first | (go_simp; done) | (go_simp; rfl) | rfl) ?_
        (try simp only [Act.put]); (try simp only [LsA, Ls0, LsS])
        refine heldTake 17 _ rfl (by kernel_rfl) (by kernel_rfl) (by kernel_rfl) (fun _ _ _ h => h) rfl hS (fun wy hy => by have h0 := HC2.out wy hy; first | (go_simp; done) | (go_simp; rfl) | rfl) ?_
        (try simp only [Act.put]); (try simp only [LsA, Ls0, LsS])
        refine heldTake 18 _ rfl (by kernel_rfl) (by kernel_rfl) (by kernel_rfl) (fun _ _ _ h => h) rfl hS (fun wy hy => by first | (go_simp; done) | (go_simp; rfl) | rfl) ?_
        (try simp only [Act.put]); (try simp only [LsA, Ls0, LsS])
        refine heldTake 19 _ rfl (by kernel_rfl) (by kernel_rfl) (by kernel_rfl) (fun _ _ _ h => h) rfl hS (fun wy hy => by first | (go_simp; done) | (go_simp; rfl) | rfl) ?_
        (try simp only [Act.put]); (try simp only [LsA, Ls0, LsS])
        refine heldDone (by kernel_rfl) ?_
        have HS := hide hS
        clear hS
        go_wp2_with fail
        go_meet
        case rel => exact ⟨by simp; rw [Bool.eq_iff_iff]; simp; omega, HS⟩
    · have hnil : b.drop p = [] := List.drop_eq_nil_of_le (by omega)
      have hcb : cb = false := by rw [HCB.out, hnil]; rfl
      subst hcb
      have hn0 : n2 = 0 := by have := HLEN.out; omega
      subst hn0
      go_wp2_with fail
      refine heldStart (S := fun wy => Below w1.heap.size w1 wy) (by kernel_rfl) ?_
      have hS := hbd
      clear hbd
      generalize w1.drew = w2 at *
      refine heldTake 0 _ rfl (by kernel_rfl) (by kernel_rfl) (by kernel_rfl) (fun _ _ _ h => h) rfl hS (fun wy hy => by first | (go_simp; done) | (go_simp; rfl) | rfl) ?_
      (try simp only [Act.put]); (try simp only [LsA, Ls0, LsS])
      refine heldTake 1 _ rfl (by kernel_rfl) (by kernel_rfl) (by kernel_rfl) (fun _ _ _ h => h) rfl hS (fun wy hy => by first | (go_simp; done) | (go_simp; rfl) | rfl) ?_
      (try simp only [Act.put]); (try simp only [LsA, Ls0, LsS])
      refine heldTake 2 (.bool false) rfl (by kernel_rfl) (by kernel_rfl) (by kernel_rfl) (fun _ _ _ h => h) rfl hS (fun wy hy => by go_simp) ?_
      (try simp only [Act.put]); (try simp only [LsA, Ls0, LsS])
      refine heldTake 3 _ rfl (by kernel_rfl) (by kernel_rfl) (by kernel_rfl) (fun _ _ _ h => h) rfl hS (fun wy hy => by first | (go_simp; done) | (go_simp; rfl) | rfl) ?_
      (try simp only [Act.put]); (try simp only [LsA, Ls0, LsS])
      refine heldSkip 4 rfl (by kernel_rfl) (by kernel_rfl) (by kernel_rfl) (fun _ _ _ h => h) rfl hS ?_
      (try simp only [Act.put]); (try simp only [LsA, Ls0, LsS])
      refine heldSkip 5 rfl (by kernel_rfl) (by kernel_rfl) (by kernel_rfl) (fun _ _ _ h => h) rfl hS ?_
      (try simp only [Act.put]); (try simp only [LsA, Ls0, LsS])
      refine heldSkip 6 rfl (by kernel_rfl) (by kernel_rfl) (by kernel_rfl) (fun _ _ _ h => h) rfl hS ?_
      (try simp only [Act.put]); (try simp only [LsA, Ls0, LsS])
      refine heldSkip 7 rfl (by kernel_rfl) (by kernel_rfl) (by kernel_rfl) (fun _ _ _ h => h) rfl hS ?_
      (try simp only [Act.put]); (try simp only [LsA, Ls0, LsS])
      refine heldTake 8 _ rfl (by kernel_rfl) (by kernel_rfl) (by kernel_rfl) (fun _ _ _ h => h) rfl hS (fun wy hy => by first | (go_simp; done) | (go_simp; rfl) | rfl) ?_
      (try simp only [Act.put]); (try simp only [LsA, Ls0, LsS])
      refine heldTake 9 _ rfl (by kernel_rfl) (by kernel_rfl) (by kernel_rfl) (fun _ _ _ h => h) rfl hS (fun wy hy => by first | (go_simp; done) | (go_simp; rfl) | rfl) ?_
      (try simp only [Act.put]); (try simp only [LsA, Ls0, LsS])
      refine heldSkip 10 rfl (by kernel_rfl) (by kernel_rfl) (by kernel_rfl) (fun _ _ _ h => h) rfl hS ?_
      (try simp only [Act.put]); (try simp only [LsA, Ls0, LsS])
      refine heldSkip 11 rfl (by kernel_rfl) (by kernel_rfl) (by kernel_rfl) (fun _ _ _ h => h) rfl hS ?_
      (try simp only [Act.put]); (try simp only [LsA, Ls0, LsS])
      refine heldSkip 12 rfl (by kernel_rfl) (by kernel_rfl) (by kernel_rfl) (fun _ _ _ h => h) rfl hS ?_
      (try simp only [Act.put]); (try simp only [LsA, Ls0, LsS])
      refine heldSkip 13 rfl (by kernel_rfl) (by kernel_rfl) (by kernel_rfl) (fun _ _ _ h => h) rfl hS ?_
      (try simp only [Act.put]); (try simp only [LsA, Ls0, LsS])
      refine heldSkip 14 rfl (by kernel_rfl) (by kernel_rfl) (by kernel_rfl) (fun _ _ _ h => h) rfl hS ?_
      (try simp only [Act.put]); (try simp only [LsA, Ls0, LsS])
      refine heldSkip 15 rfl (by kernel_rfl) (by kernel_rfl) (by kernel_rfl) (fun _ _ _ h => h) rfl hS ?_
      (try simp only [Act.put]); (try simp only [LsA, Ls0, LsS])
      refine heldSkip 16 rfl (by kernel_rfl) (by kernel_rfl) (by kernel_rfl) (fun _ _ _ h => h) rfl hS ?_
      (try simp only [Act.put]); (try simp only [LsA, Ls0, LsS])
      refine heldSkip 17 rfl (by kernel_rfl) (by kernel_rfl) (by kernel_rfl) (fun _ _ _ h => h) rfl hS ?_
      (try simp only [Act.put]); (try simp only [LsA, Ls0, LsS])
      refine heldSkip 18 rfl (by kernel_rfl) (by kernel_rfl) (by kernel_rfl) (fun _ _ _ h => h) rfl hS ?_
      (try simp only [Act.put]); (try simp only [LsA, Ls0, LsS])
      refine heldTake 19 _ rfl (by kernel_rfl) (by kernel_rfl) (by kernel_rfl) (fun _ _ _ h => h) rfl hS (fun wy hy => by first | (go_simp; done) | (go_simp; rfl) | rfl) ?_
      (try simp only [Act.put]); (try simp only [LsA, Ls0, LsS])
      refine heldDone (by kernel_rfl) ?_
      have HS := hide hS
      clear hS
      go_wp2_with fail
      go_meet
      case rel => exact ⟨rfl, HS⟩
  obtain ⟨rfl, HB12⟩ := hcut
  rename World => w2
  have HB2 : Hid (Below w.heap.size w w2) := (HB0.out.trans (HB1.out.mono HB0.out.size)).trans (HB12.out.mono (Nat.le_trans HB0.out.size HB1.out.size))
  have HR2 := hide (HR1.out.next HB12.out)
  have HDR2 : Hid (∀ wy, Below w2.heap.size w2 wy → BSl wy (.slice a2 n2 c2) (b.drop p)) := fun wy hy => HDR1.out wy (HB12.out.trans (hy.mono HB12.out.size))
  have HRC := hide ((HB12.out.block _ (blk_lt ((HB1.out.block _ (blk_lt HR0.out)).trans HR0.out))).trans ((HB1.out.block _ (blk_lt HR0.out)).trans HR0.out))
  have c1 : w2.cell? ⟨g, 1, none⟩ = some (.int .i64 (p : Nat)) := blk_cell HR2.out.blk (rcl_1 HR2.out.z)
  clear HR HR1 HDR1 HB12 HR0
  cases cb with
  | true =>
    as_aux_lemma =>
    have HE : Hid (llook b dp p op = .error (91, p)) := by
      have h := HCB.out.symm
      rw [Bool.and_eq_true] at h
      show _ = _
      unfold llook
      rw [if_pos ⟨h.1, of_decide_eq_true h.2⟩]
    go_wp2_with fail
    refine (giveUp_any w2 91 p).mono ?_
    rintro e w3 ⟨rfl, hw3⟩
    have hw3 := hw3.symm
    subst hw3
    go_wp2_with fail
    exact ⟨rfl, HB2.out, .inr ⟨91, p, HE.out, rfl⟩⟩
  | false =>
    have HE : Hid (llook b dp p op = if (hrd (b.drop p)).e = 20 ∨ ((hrd (b.drop p)).e = 0 ∧ ltel (hrd (b.drop p)) = true ∧ (b.drop p).length - (hrd (b.drop p)).u < (hrd (b.drop p)).n) then .error (92, p) else if (hrd (b.drop p)).e ≠ 0 then .error (93, p) else .ok (hrd (b.drop p))) := by
      have h := HCB.out.symm
      show _ = _
      unfold llook
      rw [if_neg (fun hh => by rw [hh.1, decide_eq_true hh.2] at h; cases h)]
    go_wp2_with fail
    refine (read_any w2 _ (b.drop p) (HDR2.out w2 (Below.refl _ _))).mono ?_
    rintro e w3 ⟨rfl, hb3⟩
    have HB3 : Hid (Below w.heap.size w w3) := HB2.out.trans (hb3.mono HB2.out.size)
    have HR3 := hide (HR2.out.next hb3)
    have HRC3 := hide ((hb3.block _ (blk_lt HRC.out)).trans HRC.out)
    have HHB := hide (hrd_bd9 (b := b.drop p) (fun x hx => HBY.out x (List.mem_of_mem_drop hx)))
    have HU : Hid ((hrd (b.drop p)).e = 0 → (hrd (b.drop p)).u ≤ n2) := fun h => by rw [← HLN2.out]; exact (hrd_used _ h).2
    rw [HLN2.out] at HE
    generalize hrd (b.drop p) = h at *
    obtain ⟨hm, hi, hn, hu, hs, he⟩ := h
    have HHN : Hid (hn < 18446744073709551616) := HHB.out.1
    have HU2 : Hid (he = 0 → hu ≤ n2) := HU.out
    have HE2 : Hid (llook b dp p op = if he = 20 ∨ (he = 0 ∧ ltel ⟨hm, hi, hn, hu, hs, he⟩ = true ∧ n2 - hu < hn) then .error (92, p) else if he ≠ 0 then .error (93, p) else .ok ⟨hm, hi, hn, hu, hs, he⟩) := HE.out
    have HN2 : Hid (n2 ≤ 140737488351232) := by have h1 := HLEN.out; have h2 := HBL.out; show _ ≤ _; omega
    simp only [HR.val]
    have hba := below_alloc4 w3 (.cells #[.int .i64 (hm : Nat), .int .i64 (hi : Nat), .int .u64 (hn : Nat), .int .i64 (hu : Nat), .bool hs] 66)
    have HBW : Hid (Below w.heap.size w (w3.alloc (.cells #[.int .i64 (hm : Nat), .int .i64 (hi : Nat), .int .u64 (hn : Nat), .int .i64 (hu : Nat), .bool hs] 66))) := HB3.out.trans (hba.mono HB3.out.size)
    have HRW := hide ((hba.block _ (blk_lt HRC3.out)).trans HRC3.out)
    have HCA : Hid (∀ j x, (#[.int .i64 (hm : Nat), .int .i64 (hi : Nat), .int .u64 (hn : Nat), .int .i64 (hu : Nat), .bool hs] : Array Value)[j]? = some x → (w3.alloc (.cells #[.int .i64 (hm : Nat), .int .i64 (hi : Nat), .int .u64 (hn : Nat), .int .i64 (hu : Nat), .bool hs] 66)).cell? ⟨w3.heap.size, 0 + j, none⟩ = some x) := fun j x hj => by rw [Nat.zero_add]; exact blk_cell (heap_alloc_new w3 _) hj
    have c1 : (w3.alloc (.cells #[.int .i64 (hm : Nat), .int .i64 (hi : Nat), .int .u64 (hn : Nat), .int .i64 (hu : Nat), .bool hs] 66)).cell? ⟨g, 1, none⟩ = some (.int .i64 (p : Nat)) := keep_below hba _ _ (blk_cell HR3.out.blk (rcl_1 HR3.out.z))
    have d3 : (w3.alloc (.cells #[.int .i64 (hm : Nat), .int .i64 (hi : Nat), .int .u64 (hn : Nat), .int .i64 (hu : Nat), .bool hs] 66)).cell? ⟨w3.heap.size, 3, none⟩ = some (.int .i64 (hu : Nat)) := blk_cell (j := 3) (heap_alloc_new w3 _) rfl
    have d2 : (w3.alloc (.cells #[.int .i64 (hm : Nat), .int .i64 (hi : Nat), .int .u64 (hn : Nat), .int .i64 (hu : Nat), .bool hs] 66)).cell? ⟨w3.heap.size, 2, none⟩ = some (.int .u64 (hn : Nat)) := blk_cell (j := 2) (heap_alloc_new w3 _) rfl
    have HI := hide infoHd
    have HAG : Hid (∀ w, (isAgg 66).run Tryz.prog w = .ok true w) := aggHd
    clear hba hb3 HE HHB HU HR2 HDR2 HRC HB2 HR3 HRC3 HCB
    by_cases h20 : he = 20
    · as_aux_lemma =>
      have g1 : ((he : Int) == 20) = true := beq_iff_eq.2 (by omega)
      have HK : Hid (llook b dp p op = .error (92, p)) := by show _ = _; rw [HE2.out, if_pos (.inl h20)]
      clear h20 HE2
      go_wp2_with fail
      refine (giveUp_any _ 92 p).mono ?_
      rintro e w4 ⟨rfl, hw4⟩
      have hw4 := hw4.symm
      subst hw4
      go_wp2_with fail
      exact ⟨rfl, HBW.out, .inr ⟨92, p, HK.out, rfl⟩⟩
    have g1 : ((he : Int) == 20) = false := beq_eq_false_iff_ne.2 (by omega)
    by_cases h0 : he = 0
    case neg => as_aux_lemma =>
      have g2 : ((he : Int) == 0) = false := beq_eq_false_iff_ne.2 (by omega)
      have g3 : ((he : Int) != 0) = true := by rw [bne_iff_ne]; omega
      have HK : Hid (llook b dp p op = .error (93, p)) := by show _ = _; rw [HE2.out, if_neg (by omega), if_pos h0]
      clear h20 h0 HE2
      go_wp2_with fail
      refine (giveUp_any _ 93 p).mono ?_
      rintro e w4 ⟨rfl, hw4⟩
      have hw4 := hw4.symm
      subst hw4
      go_wp2_with fail
      exact ⟨rfl, HBW.out, .inr ⟨93, p, HK.out, rfl⟩⟩
    subst h0
    have hun := HU2.out rfl
    have hnn := HHN.out
    have hn2 := HN2.out
    have g2 : (((0 : Nat) : Int) == 0) = true := rfl
    obtain ⟨m2, hm2⟩ : ∃ m2, m2 = n2 - hu := ⟨_, rfl⟩
    have k1 : IntKind.i64.wrap ((n2 : Int) - (hu : Int)) = (m2 : Int) := by rw [IntKind.wrap_i64]; omega
    have k2 : IntKind.u64.wrap (m2 : Int) = (m2 : Int) := by rw [IntKind.wrap_u64]; omega
    have k3 : (n2 : Int) - (hu : Int) = (m2 : Int) := by omega
    have k4 : wrap64 (m2 : Int) = (m2 : Int) := by unfold wrap64; omega
    have HM2 : Hid (m2 = n2 - hu) := hm2
    generalize hlt : ltel ⟨hm, hi, hn, hu, hs, 0⟩ = lt at *
    have HLT := hide hlt
    clear hlt h20 hun hnn hn2 hm2
    go_wp2_with (refine wpList_aggAt rfl rfl HI.out HAG.out w3.heap.size 0 #[.int .i64 (hm : Nat), .int .i64 (hi : Nat), .int .u64 (hn : Nat), .int .i64 (hu : Nat), .bool hs] rfl rfl HCA.out ?_)
    refine (tells9_any _ ⟨hm, hi, hn, hu, hs, 0⟩).mono ?_
    rintro e w4 ⟨rfl, hb4⟩
    rw [HLT.out]
    have HB4 : Hid (Below w.heap.size w w4) := HBW.out.trans (hb4.mono HBW.out.size)
    have HRW4 := hide ((hb4.block _ (blk_lt HRW.out)).trans HRW.out)
    have HCA4 : Hid (∀ j x, (#[.int .i64 (hm : Nat), .int .i64 (hi : Nat), .int .u64 (hn : Nat), .int .i64 (hu : Nat), .bool hs] : Array Value)[j]? = some x → w4.cell? ⟨w3.heap.size, 0 + j, none⟩ = some x) := fun j x hj => keep_below hb4 _ _ (HCA.out j x hj)
    have c1b := keep_below hb4 _ _ c1
    have d2b := keep_below hb4 _ _ d2
    have d3b := keep_below hb4 _ _ d3
    have HI5 : Hid ((Tryz.prog.info? 66).map (·.size) = some (#[.int .i64 (hm : Nat), .int .i64 (hi : Nat), .int .u64 (hn : Nat), .int .i64 (hu : Nat), .bool hs] : Array Value).size) := infoHd
    have HA5 : Hid ((#[.int .i64 (hm : Nat), .int .i64 (hi : Nat), .int .u64 (hn : Nat), .int .i64 (hu : Nat), .bool hs] : Array Value).all (·.oneCell') = true) := by show _ = _; simp [Value.oneCell']
    clear c1 d2 d3 HCA HRW HBW hb4 HB3
    cases lt with
    | false =>
      as_aux_lemma =>
      have HK : Hid (llook b dp p op = .ok ⟨hm, hi, hn, hu, hs, 0⟩) := by show _ = _; rw [HE2.out]; simp
      clear HE2
      go_wp2_with (first
        | (refine wpList_aggAt rfl rfl HI.out HAG.out w3.heap.size 0 #[.int .i64 (hm : Nat), .int .i64 (hi : Nat), .int .u64 (hn : Nat), .int .i64 (hu : Nat), .bool hs] rfl rfl HCA4.out ?_)
        | (refine wpList_storeRow rfl rfl w.heap.size #[.int .i64 0, .int .i64 0, .int .u64 0, .int .i64 0, .bool false] #[.int .i64 (hm : Nat), .int .i64 (hi : Nat), .int .u64 (hn : Nat), .int .i64 (hu : Nat), .bool hs] 66 rfl rfl HRW4.out HI5.out rfl HA5.out ?_))
      exact bodyPost_ret (end_h9 rfl (row_same HRW4.out) rfl rfl) rfl ⟨HB4.out.trans ((row_kp _ _ _).below HB4.out.size (fun q e => by omega)), .inl ⟨_, HK.out, rfl⟩⟩
    | true =>
      by_cases hsh : m2 < hn
      · as_aux_lemma =>
        have g5 : (m2 : Int) < (hn : Int) := by omega
        have HK : Hid (llook b dp p op = .error (92, p)) := by show _ = _; rw [HE2.out, if_pos (.inr ⟨trivial, rfl, by rw [← HM2.out]; exact hsh⟩)]
        clear HE2
        go_wp2_with fail
        refine (giveUp_any _ 92 p).mono ?_
        rintro e w5 ⟨rfl, hw5⟩
        have hw5 := hw5.symm
        subst hw5
        go_wp2_with fail
        exact ⟨rfl, HB4.out, .inr ⟨92, p, HK.out, rfl⟩⟩
      · as_aux_lemma =>
        have g5 : ¬ (m2 : Int) < (hn : Int) := by omega
        have HK : Hid (llook b dp p op = .ok ⟨hm, hi, hn, hu, hs, 0⟩) := by show _ = _; rw [HE2.out, if_neg (by rw [← HM2.out]; simp; omega)]; simp
        clear HE2
        go_wp2_with (first
          | (refine wpList_aggAt rfl rfl HI.out HAG.out w3.heap.size 0 #[.int .i64 (hm : Nat), .int .i64 (hi : Nat), .int .u64 (hn : Nat), .int .i64 (hu : Nat), .bool hs] rfl rfl HCA4.out ?_)
          | (refine wpList_storeRow rfl rfl w.heap.size #[.int .i64 0, .int .i64 0, .int .u64 0, .int .i64 0, .bool false] #[.int .i64 (hm : Nat), .int .i64 (hi : Nat), .int .u64 (hn : Nat), .int .i64 (hu : Nat), .bool hs] 66 rfl rfl HRW4.out HI5.out rfl HA5.out ?_))
        exact bodyPost_ret (end_h9 rfl (row_same HRW4.out) rfl rfl) rfl ⟨HB4.out.trans ((row_kp _ _ _).below HB4.out.size (fun q e => by omega)), .inl ⟨_, HK.out, rfl⟩⟩
end
section
open Go.RowKit Go
structure Ris {α : Type} (b : List Nat) (pl : α → Nat) (p : Nat) (r : Lx α) : Prop where
  ok : ∀ x, r = .ok x → p < pl x ∧ pl x ≤ b.length
  bad : ∀ c q, r = .error (c, q) → p ≤ q ∧ (c = 91 ∨ c = 92 ∨ c = 93)
structure Hdo (b : List Nat) (dp op : Nat) (x : HR × Nat) : Prop where
  t : ltel x.1 = true → x.2 + x.1.n ≤ b.length
  n : x.1.m = 4 ∨ x.1.m = 5 → op ≠ dp
  e : x.1.e = 0
theorem hrd_nest {r : List Nat} (h : (hrd r).e = 0) : lnh r = decide ((hrd r).m = 4 ∨ (hrd r).m = 5) := by
  cases r with
  | nil => simp [hrd, HR.bad] at h
  | cons x r =>
    have e : (hrdc x r).m = x / 32 := by
      rw [hrd_cons] at h
      unfold hrdc at h ⊢
      by_cases h1 : 27 < x % 32
      · rw [if_pos h1] at h ⊢
        by_cases h2 : x % 32 = 31 ∧ x / 32 ≠ 0 ∧ x / 32 ≠ 1 ∧ x / 32 ≠ 6
        · rw [if_pos h2]
        · rw [if_neg h2] at h
          simp [HR.bad] at h
      · rw [if_neg h1] at h ⊢
        by_cases h2 : x % 32 < 24
        · rw [if_pos h2]
        · rw [if_neg h2] at h ⊢
          by_cases h3 : r.length < hwide (x % 32)
          · rw [if_pos h3] at h
            simp [HR.bad] at h
          · rw [if_neg h3] at h ⊢
            by_cases h4 : x / 32 = 7 ∧ x % 32 = 24 ∧ bnum 0 (r.take (hwide (x % 32))) < 32
            · rw [if_pos h4] at h
              simp [HR.bad] at h
            · rw [if_neg h4]
    rw [hrd_cons, e]
    show (decide (x / 32 = 4) || decide (x / 32 = 5)) = _
    simp
theorem item_ris (b : List Nat) (dp p op : Nat) : Ris b (fun x => x.2) p (litem b dp p op) ∧ ∀ x, litem b dp p op = .ok x → Hdo b dp op x := by
  have hL := look_lkd b dp p op
  unfold litem lbind
  cases hl : llook b dp p op with
  | error e =>
    obtain ⟨c, q⟩ := e
    have := hL.bad c q hl
    exact ⟨⟨fun _ e => (by cases e), fun c' q' e => by injection e with e; injection e with e1 e2; subst e1; subst e2; exact ⟨by omega, this.2⟩⟩, fun _ e => (by cases e)⟩
  | ok h =>
    have h1 := hL.ok h hl
    simp only
    by_cases h2 : h.m = 7 ∧ h.i = 31
    · rw [if_pos h2]
      exact ⟨⟨fun _ e => (by cases e), fun c' q' e => by injection e with e; injection e with e1 e2; exact ⟨by omega, by omega⟩⟩, fun _ e => (by cases e)⟩
    · rw [if_neg h2]
      refine ⟨⟨fun x e => ?_, fun c' q' e => (by cases e)⟩, fun x e => ?_⟩
      · injection e with e
        subst e
        exact ⟨by show p < p + h.u; omega, by show p + h.u ≤ _; omega⟩
      · injection e with e
        subst e
        refine ⟨h1.2.2.2.2.2.1, fun hm => h1.2.2.2.2.2.2 ?_, h1.2.2.1⟩
        have := hrd_nest (r := b.drop p) (by rw [← h1.2.1]; exact h1.2.2.1)
        rw [this, ← h1.2.1]
        exact decide_eq_true hm
theorem item_more (b c : List Nat) (dp p op : Nat) (hp : p ≤ b.length) : Sr (fun x => x.2) (litem b dp p op) (litem (b ++ c) dp p op) := by
  refine Sr.bind (look_more b c dp p op hp) (fun h _ => ?_) (fun h _ => ?_)
  · by_cases h2 : h.m = 7 ∧ h.i = 31
    · rw [if_pos h2]
      exact Sr.no _ _ _ (by decide)
    · rw [if_neg h2]
      exact Sr.yes _ _
  · by_cases h2 : h.m = 7 ∧ h.i = 31
    · rw [if_pos h2]
      exact ⟨fun c' q' e => by injection e with e; injection e with _ e; omega, fun _ e => (by cases e)⟩
    · rw [if_neg h2]
      exact ⟨fun c' q' e => (by cases e), fun _ e => by injection e with e; rw [← e]; exact Nat.le_add_right _ _⟩
theorem piec_ris (b : List Nat) (dp mj p op : Nat) (hm : mj = 2 ∨ mj = 3) : Ris b (fun x => x.2 + x.1.n) p (lpiec b dp mj p op) := by
  have hL := look_lkd b dp p op
  unfold lpiec lbind
  cases hl : llook b dp p op with
  | error e =>
    obtain ⟨c, q⟩ := e
    have := hL.bad c q hl
    exact ⟨fun _ e => (by cases e), fun c' q' e => by injection e with e; injection e with e1 e2; subst e1; subst e2; exact ⟨by omega, this.2⟩⟩
  | ok h =>
    have h1 := hL.ok h hl
    simp only
    by_cases h2 : h.m ≠ mj ∨ h.i = 31
    · rw [if_pos h2]
      exact ⟨fun _ e => (by cases e), fun c' q' e => by injection e with e; injection e with e1 e2; exact ⟨by omega, by omega⟩⟩
    · rw [if_neg h2]
      have h3 := not_or.1 h2
      have ht : ltel h = true := by
        have e1 : h.m = mj := Decidable.not_not.1 h3.1
        unfold ltel
        rw [e1]
        rcases hm with e | e <;> simp [e, h3.2]
      have h4 := h1.2.2.2.2.2.1 ht
      refine ⟨fun x e => ?_, fun c' q' e => (by cases e)⟩
      injection e with e
      subst e
      exact ⟨by show p < p + h.u + h.n; omega, h4⟩
theorem piec_more (b c : List Nat) (dp mj p op : Nat) (hp : p ≤ b.length) : Sr (fun x => x.2 + x.1.n) (lpiec b dp mj p op) (lpiec (b ++ c) dp mj p op) := by
  refine Sr.bind (look_more b c dp p op hp) (fun h _ => ?_) (fun h _ => ?_)
  · by_cases h2 : h.m ≠ mj ∨ h.i = 31
    · rw [if_pos h2]
      exact Sr.no _ _ _ (by decide)
    · rw [if_neg h2]
      exact Sr.yes _ _
  · by_cases h2 : h.m ≠ mj ∨ h.i = 31
    · rw [if_pos h2]
      exact ⟨fun c' q' e => by injection e with e; injection e with _ e; omega, fun _ e => (by cases e)⟩
    · rw [if_neg h2]
      exact ⟨fun c' q' e => (by cases e), fun _ e => by injection e with e; rw [← e]; show p ≤ p + h.u + h.n; omega⟩
structure Riw {α : Type} (b : List Nat) (pl : α → Nat) (p : Nat) (r : Lx α) : Prop where
  ok : ∀ x, r = .ok x → p ≤ pl x ∧ pl x ≤ b.length
  bad : ∀ c q, r = .error (c, q) → p ≤ q ∧ (c = 91 ∨ c = 92 ∨ c = 93)
theorem Ris.riw {α : Type} {b : List Nat} {pl : α → Nat} {p : Nat} {r : Lx α} (h : Ris b pl p r) : Riw b pl p r := ⟨fun x e => ⟨by have := (h.ok x e).1; omega, (h.ok x e).2⟩, h.bad⟩
theorem Riw.mono {α : Type} {b : List Nat} {pl : α → Nat} {p p' : Nat} {r : Lx α} (h : Riw b pl p r) (hp : p' ≤ p) : Riw b pl p' r := ⟨fun x e => ⟨by have := (h.ok x e).1; omega, (h.ok x e).2⟩, fun c q e => ⟨by have := (h.bad c q e).1; omega, (h.bad c q e).2⟩⟩
theorem Riw.bind {α β : Type} {b : List Nat} {pl : α → Nat} {pm : β → Nat} {p : Nat} {r : Lx α} {g : α → Lx β} (h : Riw b pl p r) (hg : ∀ x, r = .ok x → Riw b pm (pl x) (g x)) : Riw b pm p (lbind r g) := by
  cases r with
  | ok x => exact (hg x rfl).mono (h.ok x rfl).1
  | error e => exact ⟨fun _ e => (by cases e), fun c q e => h.bad c q (by injection e with e; rw [e])⟩
theorem Ris.bind {α β : Type} {b : List Nat} {pl : α → Nat} {pm : β → Nat} {p : Nat} {r : Lx α} {g : α → Lx β} (h : Ris b pl p r) (hg : ∀ x, r = .ok x → Riw b pm (pl x) (g x)) : Ris b pm p (lbind r g) := by
  cases r with
  | ok x =>
    have h1 := (h.ok x rfl).1
    have h2 := hg x rfl
    exact ⟨fun y e => ⟨by have := (h2.ok y e).1; omega, (h2.ok y e).2⟩, fun c q e => ⟨by have := (h2.bad c q e).1; omega, (h2.bad c q e).2⟩⟩
  | error e => exact ⟨fun _ e => (by cases e), fun c q e => h.bad c q (by injection e with e; rw [e])⟩
theorem tags_riw (b : List Nat) (dp op : Nat) : ∀ (j : Nat) (h : HR) (p : Nat), p ≤ b.length → b.length + 1 ≤ p + j → Hdo b dp op (h, p) → Riw b (fun x => x.2) p (ltags b dp op j h p) ∧ ∀ x, ltags b dp op j h p = .ok x → Hdo b dp op x ∧ x.1.m ≠ 6
  | 0, _, p, h1, h2, _ => by omega
  | j + 1, h, p, h1, h2, h3 => by
    unfold ltags
    by_cases h4 : h.m = 6
    · rw [if_pos h4]
      have hI := item_ris b dp p op
      refine ⟨Riw.bind hI.1.riw (fun x e => ?_), fun x e => ?_⟩
      · have h5 := hI.1.ok x e
        exact (tags_riw b dp op j x.1 x.2 h5.2 (by omega) (hI.2 x e)).1
      · unfold lbind at e
        cases hi : litem b dp p op with
        | error e' => rw [hi] at e; cases e
        | ok y =>
          rw [hi] at e
          have h5 := hI.1.ok y hi
          exact (tags_riw b dp op j y.1 y.2 h5.2 (by omega) (hI.2 y hi)).2 x e
    · rw [if_neg h4]
      exact ⟨⟨fun x e => by injection e with e; rw [← e]; exact ⟨Nat.le_refl _, h1⟩, fun _ _ e => (by cases e)⟩, fun x e => by injection e with e; rw [← e]; exact ⟨h3, h4⟩⟩
theorem tags_more (b c : List Nat) (dp op : Nat) : ∀ (j : Nat) (h : HR) (p : Nat), p ≤ b.length → (b ++ c).length + 1 ≤ p + j → Sr (fun x => x.2) (ltags b dp op j h p) (ltags (b ++ c) dp op j h p)
  | 0, _, p, h1, h2 => by rw [List.length_append] at h2; omega
  | j + 1, h, p, h1, h2 => by
    unfold ltags
    by_cases h4 : h.m = 6
    · rw [if_pos h4, if_pos h4]
      refine Sr.bind (item_more b c dp p op h1) (fun x e => ?_) (fun x e => ?_)
      · have h5 := (item_ris b dp p op).1.ok x e
        exact tags_more b c dp op j x.1 x.2 h5.2 (by omega)
      · have h5 := (item_ris (b ++ c) dp p op).1.ok x e
        have h6 := (tags_riw (b ++ c) dp op j x.1 x.2 h5.2 (by omega) ((item_ris (b ++ c) dp p op).2 x e)).1
        exact ⟨fun c' q' e => (h6.bad c' q' e).1, fun y e => (h6.ok y e).1⟩
    · rw [if_neg h4, if_neg h4]
      exact Sr.yes _ _
theorem get_more (b c : List Nat) (p : Nat) (hp : p < b.length) : (b ++ c)[p]? = b[p]? := List.getElem?_append_left hp
theorem pcs_riw (b : List Nat) (dp mj op : Nat) (hm : mj = 2 ∨ mj = 3) : ∀ (j p : Nat), p ≤ b.length → b.length + 1 ≤ p + j → Riw b (fun x => x) p (lpcs b dp mj op j p)
  | 0, p, h1, h2 => by omega
  | j + 1, p, h1, h2 => by
    unfold lpcs
    by_cases h4 : b[p]? = some 255
    · rw [if_pos h4]
      have := (List.getElem?_eq_some_iff.1 h4).1
      exact ⟨fun x e => by injection e with e; omega, fun _ _ e => (by cases e)⟩
    · rw [if_neg h4]
      have hI := piec_ris b dp mj p op hm
      refine Riw.bind hI.riw (fun x e => ?_)
      have h5 := hI.ok x e
      exact pcs_riw b dp mj op hm j _ h5.2 (by omega)
theorem pcs_more (b c : List Nat) (dp mj op : Nat) (hm : mj = 2 ∨ mj = 3) : ∀ (j p : Nat), p ≤ b.length → (b ++ c).length + 1 ≤ p + j → Sr (fun x => x) (lpcs b dp mj op j p) (lpcs (b ++ c) dp mj op j p)
  | 0, p, h1, h2 => by rw [List.length_append] at h2; omega
  | j + 1, p, h1, h2 => by
    by_cases hp : p < b.length
    · unfold lpcs
      rw [get_more b c p hp]
      by_cases h4 : b[p]? = some 255
      · rw [if_pos h4, if_pos h4]
        exact Sr.yes _ _
      · rw [if_neg h4, if_neg h4]
        refine Sr.bind (piec_more b c dp mj p op h1) (fun x e => ?_) (fun x e => ?_)
        · have h5 := (piec_ris b dp mj p op hm).ok x e
          exact pcs_more b c dp mj op hm j _ h5.2 (by omega)
        · have h5 := (piec_ris (b ++ c) dp mj p op hm).ok x e
          have h6 := pcs_riw (b ++ c) dp mj op hm j _ h5.2 (by omega)
          exact ⟨fun c' q' e => (h6.bad c' q' e).1, fun y e => (h6.ok y e).1⟩
    · have e : lpcs b dp mj op (j + 1) p = .error (92, p) := by
        unfold lpcs
        rw [if_neg (by rw [List.getElem?_eq_none (by omega)]; simp)]
        unfold lpiec llook
        rw [List.drop_eq_nil_of_le (by omega)]
        rfl
      rw [e]
      have h6 := pcs_riw (b ++ c) dp mj op hm (j + 1) p (by rw [List.length_append]; omega) h2
      refine ⟨fun _ e => (by cases e), fun c' q' e hc => ?_, fun q e => ?_⟩
      · injection e with e
        injection e with e1 _
        exact absurd e1.symm hc
      · injection e with e
        injection e with _ e2
        subst e2
        exact ⟨fun c' q' e => (h6.bad c' q' e).1, fun y e => (h6.ok y e).1⟩
end
section
open Go.RowKit Go
theorem rcl_set1 (C : Array Value) (p op p' : Nat) : (rcl C p op).setIfInBounds 1 (.int .i64 (p' : Nat)) = rcl C p' op := by
  unfold rcl
  apply Array.ext_getElem?
  intro j
  by_cases h1 : j = 1
  · subst h1
    simp only [Array.getElem?_setIfInBounds]
    simp
  · by_cases h3 : j = 3
    · subst h3
      simp only [Array.getElem?_setIfInBounds]
      simp
    · rw [Array.getElem?_setIfInBounds_ne (by omega), Array.getElem?_setIfInBounds_ne (by omega), Array.getElem?_setIfInBounds_ne (by omega), Array.getElem?_setIfInBounds_ne (by omega), Array.getElem?_setIfInBounds_ne (by omega)]
theorem Rdr.kps {w w' : World} {g : Nat} {T : TypeId} {C : Array Value} {v : Value} {b : List Nat} {dp p op : Nat} (h : Rdr w g T C v b dp p op) (p' op' : Nat) (hk : Kp (fun q => q = g) w w') (hg : w'.heap[g]? = some (.cells (rcl C p' op') T (0, 0))) (hp : p' ≤ b.length) (ho : op' ≤ dp) : Rdr w' g T C v b dp p' op' :=
  ⟨hg, h.z, h.c0, h.c2, fun wy hy => h.bs wy (hk.trans hy (fun _ _ e => e)), h.hb, hp, ho, h.ho.2⟩
theorem Rdr.set1 {w : World} {g : Nat} {T : TypeId} {C : Array Value} {v : Value} {b : List Nat} {dp p op : Nat} (h : Rdr w g T C v b dp p op) (p' : Nat) (hp : p' ≤ b.length) : Rdr (w.setCell ⟨g, 1, none⟩ (.int .i64 (p' : Nat))) g T C v b dp p' op ∧ Kp (fun q => q = g) w (w.setCell ⟨g, 1, none⟩ (.int .i64 (p' : Nat))) := by
  have hk : Kp (fun q => q = g) w (w.setCell ⟨g, 1, none⟩ (.int .i64 (p' : Nat))) := (Kp.refl (fun q => q = g) w).setCell _ _ (fun _ => rfl)
  refine ⟨h.kps p' op hk ?_ hp h.ho.1, hk⟩
  rw [← rcl_set1 C p op p']
  exact blk_set 1 _ h.blk
theorem Rdr.on {w W : World} {g : Nat} {T : TypeId} {C : Array Value} {v : Value} {b : List Nat} {dp p op : Nat} (h : Rdr W g T C v b dp p op) (hB : Below w.heap.size w W) (hg : g < w.heap.size) (p' : Nat) (hp : p' ≤ b.length) : Rdr (W.setCell ⟨g, 1, none⟩ (.int .i64 (p' : Nat))).drew g T C v b dp p' op ∧ Kp (fun q => q = g) w (W.setCell ⟨g, 1, none⟩ (.int .i64 (p' : Nat))).drew ∧ ∀ q o, w.heap.size ≤ q → W.heap[q]? = some o → (W.setCell ⟨g, 1, none⟩ (.int .i64 (p' : Nat))).drew.heap[q]? = some o := by
  have h5 := h.set1 p' hp
  have hd : Below (W.setCell ⟨g, 1, none⟩ (.int .i64 (p' : Nat))).heap.size (W.setCell ⟨g, 1, none⟩ (.int .i64 (p' : Nat))) (W.setCell ⟨g, 1, none⟩ (.int .i64 (p' : Nat))).drew := by
    refine Below.drew ?_
    exact Below.refl _ _
  refine ⟨h5.1.next hd, (((Kp.of_below (S := fun _ => False) hB).mono (fun _ _ e => e.elim)).trans h5.2 (fun _ _ e => e)).trans (Kp.of_below (S := fun _ => False) hd) (fun _ _ e => e.elim), fun q o hq ho => ?_⟩
  have h1 := (h5.2.block q (blk_lt ho) (fun e => by omega)).trans ho
  exact (hd.block q (blk_lt h1)).trans h1
def ItmP (w : World) (g : Nat) (T : TypeId) (C : Array Value) (v : Value) (b : List Nat) (dp op : Nat) (r : Lx (HR × Nat)) (e : Ending) (w' : World) : Prop := Kp (fun q => q = g) w w' ∧ ((∃ x, r = .ok x ∧ e = .returned x.1.val ∧ Rdr w' g T C v b dp x.2 op) ∨ ∃ c q, r = .error (c, q) ∧ e = gup c q)
theorem item9_any {w : World} {g : Nat} {T : TypeId} {C : Array Value} {v : Value} {b : List Nat} {dp p op : Nat} (hR : Rdr w g T C v b dp p op) : Calls Tryz.prog 23 #[.pointer (some ⟨g, 0, none⟩)] w (ItmP w g T C v b dp op (litem b dp p op)) := by
  have hb0 := below_alloc4 w (.cells #[.int .i64 0, .int .i64 0, .int .u64 0, .int .i64 0, .bool false] 66)
  have HB0 := hide hb0
  have HR := hide (hR.next hb0)
  have HR0 := hide (heap_alloc_new w (.cells #[.int .i64 0, .int .i64 0, .int .u64 0, .int .i64 0, .bool false] 66))
  have HGW : Hid (g < w.heap.size) := blk_lt hR.blk
  have HLD := hide (look_lkd b dp p op)
  have HI := hide infoHd
  have HAG : Hid (∀ w, (isAgg 66).run Tryz.prog w = .ok true w) := aggHd
  have HRO := hide hR
  clear hR hb0
  go_enter Tryz.func23, Tryz.ntmps23
  go_wp2_with fail
  generalize w.alloc (.cells #[.int .i64 0, .int .i64 0, .int .u64 0, .int .i64 0, .bool false] 66) = w0 at *
  refine (look9_any HR.out).mono ?_
  rintro e w1 ⟨hb1, ⟨h, hr, rfl⟩ | ⟨c, q, hr, he⟩⟩
  case inr =>
    as_aux_lemma =>
    have HK : Hid (litem b dp p op = .error (c, q)) := by show _ = _; unfold litem lbind; rw [hr]
    have HB1 : Hid (Kp (fun q => q = g) w w1) := Kp.mono (Kp.of_below (S := fun _ => False) (HB0.out.trans (hb1.mono HB0.out.size))) (fun _ _ e => e.elim)
    unfold gup at he
    subst he
    clear hr hb1
    go_wp2_with fail
    exact ⟨rfl, HB1.out, .inr ⟨c, q, HK.out, rfl⟩⟩
  have HOK := hide (HLD.out.ok h hr)
  have HIT : Hid (litem b dp p op = if h.m = 7 ∧ h.i = 31 then .error (93, p) else .ok (h, p + h.u)) := by show _ = _; unfold litem lbind; rw [hr]
  have HB1 : Hid (Below w.heap.size w w1) := HB0.out.trans (hb1.mono HB0.out.size)
  have HR1 := hide (HR.out.next hb1)
  have HRC1 := hide ((hb1.block _ (blk_lt HR0.out)).trans HR0.out)
  clear hr hb1 HLD HR HR0 HB0
  obtain ⟨hm, hi, hn, hu, hs, he⟩ := h
  have HIT2 : Hid (litem b dp p op = if hm = 7 ∧ hi = 31 then .error (93, p) else .ok (⟨hm, hi, hn, hu, hs, he⟩, p + hu)) := HIT.out
  have HUP : Hid (1 ≤ hu ∧ p + hu ≤ b.length) := ⟨HOK.out.2.2.2.1, HOK.out.2.2.2.2.1⟩
  clear HIT HOK
  simp only [HR.val]
  have hba := below_alloc4 w1 (.cells #[.int .i64 (hm : Nat), .int .i64 (hi : Nat), .int .u64 (hn : Nat), .int .i64 (hu : Nat), .bool hs] 66)
  have HRW := hide (HR1.out.next hba)
  have HRC := hide ((hba.block _ (blk_lt HRC1.out)).trans HRC1.out)
  have HBW : Hid (Below w.heap.size w (w1.alloc (.cells #[.int .i64 (hm : Nat), .int .i64 (hi : Nat), .int .u64 (hn : Nat), .int .i64 (hu : Nat), .bool hs] 66))) := HB1.out.trans (hba.mono HB1.out.size)
  have HHB := hide (heap_alloc_new w1 (.cells #[.int .i64 (hm : Nat), .int .i64 (hi : Nat), .int .u64 (hn : Nat), .int .i64 (hu : Nat), .bool hs] 66))
  have HZW : Hid (w.heap.size ≤ w1.heap.size) := HB1.out.size
  clear hba HR1 HRC1 HB1
  have c1 : (w1.alloc (.cells #[.int .i64 (hm : Nat), .int .i64 (hi : Nat), .int .u64 (hn : Nat), .int .i64 (hu : Nat), .bool hs] 66)).cell? ⟨g, 1, none⟩ = some (.int .i64 (p : Nat)) := blk_cell HRW.out.blk (rcl_1 HRW.out.z)
  have d3 : (w1.alloc (.cells #[.int .i64 (hm : Nat), .int .i64 (hi : Nat), .int .u64 (hn : Nat), .int .i64 (hu : Nat), .bool hs] 66)).cell? ⟨w1.heap.size, 3, none⟩ = some (.int .i64 (hu : Nat)) := blk_cell (j := 3) HHB.out rfl
  have d0 : (w1.alloc (.cells #[.int .i64 (hm : Nat), .int .i64 (hi : Nat), .int .u64 (hn : Nat), .int .i64 (hu : Nat), .bool hs] 66)).cell? ⟨w1.heap.size, 0, none⟩ = some (.int .i64 (hm : Nat)) := blk_cell (j := 0) HHB.out rfl
  have d1 : (w1.alloc (.cells #[.int .i64 (hm : Nat), .int .i64 (hi : Nat), .int .u64 (hn : Nat), .int .i64 (hu : Nat), .bool hs] 66)).cell? ⟨w1.heap.size, 1, none⟩ = some (.int .i64 (hi : Nat)) := blk_cell (j := 1) HHB.out rfl
  have f1 : (w1.alloc (.cells #[.int .i64 (hm : Nat), .int .i64 (hi : Nat), .int .u64 (hn : Nat), .int .i64 (hu : Nat), .bool hs] 66)).frozen? ⟨g, 1, none⟩ = false := blk_frozen 1 HRW.out.blk
  obtain ⟨p2, hp2⟩ : ∃ p2, p2 = p + hu := ⟨_, rfl⟩
  have k1 : (p : Int) + (hu : Int) = (p2 : Int) := by omega
  have k4 : wrap64 (p2 : Int) = (p2 : Int) := by have h1 := HUP.out; have h2 := HRW.out.hb; unfold wrap64; omega
  have HP2 := hide hp2
  obtain ⟨W5, hW5⟩ : ∃ W5, W5 = ((w1.alloc (.cells #[.int .i64 (hm : Nat), .int .i64 (hi : Nat), .int .u64 (hn : Nat), .int .i64 (hu : Nat), .bool hs] 66)).setCell ⟨g, 1, none⟩ (.int .i64 (p2 : Nat))).drew := ⟨_, rfl⟩
  have HON : Hid (Rdr W5 g T C v b dp p2 op ∧ Kp (fun q => q = g) w W5 ∧ ∀ q o, w.heap.size ≤ q → (w1.alloc (.cells #[.int .i64 (hm : Nat), .int .i64 (hi : Nat), .int .u64 (hn : Nat), .int .i64 (hu : Nat), .bool hs] 66)).heap[q]? = some o → W5.heap[q]? = some o) := by rw [hW5]; exact HRW.out.on HBW.out HGW.out p2 (by have := HUP.out; omega)
  have HRC5 := hide (HON.out.2.2 _ _ (Nat.le_refl _) HRC.out)
  have HCA5 : Hid (∀ j x, (#[.int .i64 (hm : Nat), .int .i64 (hi : Nat), .int .u64 (hn : Nat), .int .i64 (hu : Nat), .bool hs] : Array Value)[j]? = some x → W5.cell? ⟨w1.heap.size, 0 + j, none⟩ = some x) := fun j x hj => by rw [Nat.zero_add]; exact blk_cell (HON.out.2.2 _ _ HZW.out HHB.out) hj
  have HI5 : Hid ((Tryz.prog.info? 66).map (·.size) = some (#[.int .i64 (hm : Nat), .int .i64 (hi : Nat), .int .u64 (hn : Nat), .int .i64 (hu : Nat), .bool hs] : Array Value).size) := infoHd
  have HA5 : Hid ((#[.int .i64 (hm : Nat), .int .i64 (hi : Nat), .int .u64 (hn : Nat), .int .i64 (hu : Nat), .bool hs] : Array Value).all (·.oneCell') = true) := by show _ = _; simp [Value.oneCell']
  have HRR : Hid (Rdr (W5.setRow w.heap.size #[.int .i64 (hm : Nat), .int .i64 (hi : Nat), .int .u64 (hn : Nat), .int .i64 (hu : Nat), .bool hs]) g T C v b dp p2 op ∧ Kp (fun q => q = g) w (W5.setRow w.heap.size #[.int .i64 (hm : Nat), .int .i64 (hi : Nat), .int .u64 (hn : Nat), .int .i64 (hu : Nat), .bool hs])) := by
    have hkr := row_kp W5 w.heap.size #[.int .i64 (hm : Nat), .int .i64 (hi : Nat), .int .u64 (hn : Nat), .int .i64 (hu : Nat), .bool hs]
    have hgl : g < W5.heap.size := blk_lt HON.out.1.blk
    have hka := HON.out.2.1.trans hkr (fun q hq e => by omega)
    exact ⟨HRO.out.kps p2 op hka ((hkr.block _ hgl (fun e => by have := HGW.out; omega)).trans HON.out.1.blk) HON.out.1.hp HON.out.1.ho.1, hka⟩
  clear hp2
  by_cases h7 : hm = 7
  · have g1 : ((hm : Int) == 7) = true := beq_iff_eq.2 (by omega)
    by_cases h31 : hi = 31
    · as_aux_lemma =>
      have g2 : ((hi : Int) == 31) = true := beq_iff_eq.2 (by omega)
      have HK : Hid (litem b dp p op = .error (93, p)) := by show _ = _; rw [HIT2.out, if_pos (⟨h7, h31⟩)]
      have HBK : Hid (Kp (fun q => q = g) w (w1.alloc (.cells #[.int .i64 (hm : Nat), .int .i64 (hi : Nat), .int .u64 (hn : Nat), .int .i64 (hu : Nat), .bool hs] 66))) := Kp.mono (Kp.of_below (S := fun _ => False) HBW.out) (fun _ _ e => e.elim)
      clear HIT2 hW5 h7 h31
      go_wp2_with fail
      refine (giveUp_any _ 93 p).mono ?_
      rintro e w6 ⟨rfl, hw6⟩
      have hw6 := hw6.symm
      subst hw6
      go_wp2_with fail
      exact ⟨rfl, HBK.out, .inr ⟨93, p, HK.out, rfl⟩⟩
    · as_aux_lemma =>
      have g2 : ((hi : Int) == 31) = false := beq_eq_false_iff_ne.2 (by omega)
      have HK : Hid (litem b dp p op = .ok (⟨hm, hi, hn, hu, hs, he⟩, p2)) := by show _ = _; rw [HIT2.out, if_neg (fun h => h31 h.2), HP2.out]
      clear HIT2 h7 h31
      go_wp2_with fail
      go_region
      rw [← hW5]
      clear hW5 c1 d3 d0 d1 f1
      go_wp2_with (first
        | (refine wpList_aggAt rfl rfl HI.out HAG.out w1.heap.size 0 #[.int .i64 (hm : Nat), .int .i64 (hi : Nat), .int .u64 (hn : Nat), .int .i64 (hu : Nat), .bool hs] rfl rfl HCA5.out ?_)
        | (refine wpList_storeRow rfl rfl w.heap.size #[.int .i64 0, .int .i64 0, .int .u64 0, .int .i64 0, .bool false] #[.int .i64 (hm : Nat), .int .i64 (hi : Nat), .int .u64 (hn : Nat), .int .i64 (hu : Nat), .bool hs] 66 rfl rfl HRC5.out HI5.out rfl HA5.out ?_))
      exact bodyPost_ret (end_h9 rfl (row_same HRC5.out) rfl rfl) rfl ⟨HRR.out.2, .inl ⟨_, HK.out, rfl, HRR.out.1⟩⟩
  · as_aux_lemma =>
    have g1 : ((hm : Int) == 7) = false := beq_eq_false_iff_ne.2 (by omega)
    have HK : Hid (litem b dp p op = .ok (⟨hm, hi, hn, hu, hs, he⟩, p2)) := by show _ = _; rw [HIT2.out, if_neg (fun h => h7 h.1), HP2.out]
    clear HIT2 h7
    go_wp2_with fail
    go_region
    rw [← hW5]
    clear hW5 c1 d3 d0 d1 f1
    go_wp2_with (first
      | (refine wpList_aggAt rfl rfl HI.out HAG.out w1.heap.size 0 #[.int .i64 (hm : Nat), .int .i64 (hi : Nat), .int .u64 (hn : Nat), .int .i64 (hu : Nat), .bool hs] rfl rfl HCA5.out ?_)
      | (refine wpList_storeRow rfl rfl w.heap.size #[.int .i64 0, .int .i64 0, .int .u64 0, .int .i64 0, .bool false] #[.int .i64 (hm : Nat), .int .i64 (hi : Nat), .int .u64 (hn : Nat), .int .i64 (hu : Nat), .bool hs] 66 rfl rfl HRC5.out HI5.out rfl HA5.out ?_))
    exact bodyPost_ret (end_h9 rfl (row_same HRC5.out) rfl rfl) rfl ⟨HRR.out.2, .inl ⟨_, HK.out, rfl, HRR.out.1⟩⟩
theorem piece9_any {w : World} {g : Nat} {T : TypeId} {C : Array Value} {v : Value} {b : List Nat} {dp p op : Nat} (hR : Rdr w g T C v b dp p op) (mj : Nat) : Calls Tryz.prog 37 #[.pointer (some ⟨g, 0, none⟩), .int .i64 (mj : Nat)] w (ItmP w g T C v b dp op (lpiec b dp mj p op)) := by
  have hb0 := below_alloc4 w (.cells #[.int .i64 0, .int .i64 0, .int .u64 0, .int .i64 0, .bool false] 66)
  have HB0 := hide hb0
  have HR := hide (hR.next hb0)
  have HR0 := hide (heap_alloc_new w (.cells #[.int .i64 0, .int .i64 0, .int .u64 0, .int .i64 0, .bool false] 66))
  have HGW : Hid (g < w.heap.size) := blk_lt hR.blk
  have HLD := hide (look_lkd b dp p op)
  have HI := hide infoHd
  have HAG : Hid (∀ w, (isAgg 66).run Tryz.prog w = .ok true w) := aggHd
  have HRO := hide hR
  clear hR hb0
  go_enter Tryz.func37, Tryz.ntmps37
  go_wp2_with fail
  generalize w.alloc (.cells #[.int .i64 0, .int .i64 0, .int .u64 0, .int .i64 0, .bool false] 66) = w0 at *
  refine (look9_any HR.out).mono ?_
  rintro e w1 ⟨hb1, ⟨h, hr, rfl⟩ | ⟨c, q, hr, he⟩⟩
  case inr =>
    as_aux_lemma =>
    have HK : Hid (lpiec b dp mj p op = .error (c, q)) := by show _ = _; unfold lpiec lbind; rw [hr]
    have HB1 : Hid (Kp (fun q => q = g) w w1) := Kp.mono (Kp.of_below (S := fun _ => False) (HB0.out.trans (hb1.mono HB0.out.size))) (fun _ _ e => e.elim)
    unfold gup at he
    subst he
    clear hr hb1
    go_wp2_with fail
    exact ⟨rfl, HB1.out, .inr ⟨c, q, HK.out, rfl⟩⟩
  have HOK := hide (HLD.out.ok h hr)
  have HIT : Hid (lpiec b dp mj p op = if h.m ≠ mj ∨ h.i = 31 then .error (93, p) else .ok (h, p + h.u)) := by show _ = _; unfold lpiec lbind; rw [hr]
  have HB1 : Hid (Below w.heap.size w w1) := HB0.out.trans (hb1.mono HB0.out.size)
  have HR1 := hide (HR.out.next hb1)
  have HRC1 := hide ((hb1.block _ (blk_lt HR0.out)).trans HR0.out)
  clear hr hb1 HLD HR HR0 HB0
  obtain ⟨hm, hi, hn, hu, hs, he⟩ := h
  have HIT2 : Hid (lpiec b dp mj p op = if hm ≠ mj ∨ hi = 31 then .error (93, p) else .ok (⟨hm, hi, hn, hu, hs, he⟩, p + hu)) := HIT.out
  have HUP : Hid (1 ≤ hu ∧ p + hu ≤ b.length) := ⟨HOK.out.2.2.2.1, HOK.out.2.2.2.2.1⟩
  clear HIT HOK
  simp only [HR.val]
  have hba := below_alloc4 w1 (.cells #[.int .i64 (hm : Nat), .int .i64 (hi : Nat), .int .u64 (hn : Nat), .int .i64 (hu : Nat), .bool hs] 66)
  have HRW := hide (HR1.out.next hba)
  have HRC := hide ((hba.block _ (blk_lt HRC1.out)).trans HRC1.out)
  have HBW : Hid (Below w.heap.size w (w1.alloc (.cells #[.int .i64 (hm : Nat), .int .i64 (hi : Nat), .int .u64 (hn : Nat), .int .i64 (hu : Nat), .bool hs] 66))) := HB1.out.trans (hba.mono HB1.out.size)
  have HHB := hide (heap_alloc_new w1 (.cells #[.int .i64 (hm : Nat), .int .i64 (hi : Nat), .int .u64 (hn : Nat), .int .i64 (hu : Nat), .bool hs] 66))
  have HZW : Hid (w.heap.size ≤ w1.heap.size) := HB1.out.size
  clear hba HR1 HRC1 HB1
  have c1 : (w1.alloc (.cells #[.int .i64 (hm : Nat), .int .i64 (hi : Nat), .int .u64 (hn : Nat), .int .i64 (hu : Nat), .bool hs] 66)).cell? ⟨g, 1, none⟩ = some (.int .i64 (p : Nat)) := blk_cell HRW.out.blk (rcl_1 HRW.out.z)
  have d3 : (w1.alloc (.cells #[.int .i64 (hm : Nat), .int .i64 (hi : Nat), .int .u64 (hn : Nat), .int .i64 (hu : Nat), .bool hs] 66)).cell? ⟨w1.heap.size, 3, none⟩ = some (.int .i64 (hu : Nat)) := blk_cell (j := 3) HHB.out rfl
  have d0 : (w1.alloc (.cells #[.int .i64 (hm : Nat), .int .i64 (hi : Nat), .int .u64 (hn : Nat), .int .i64 (hu : Nat), .bool hs] 66)).cell? ⟨w1.heap.size, 0, none⟩ = some (.int .i64 (hm : Nat)) := blk_cell (j := 0) HHB.out rfl
  have d1 : (w1.alloc (.cells #[.int .i64 (hm : Nat), .int .i64 (hi : Nat), .int .u64 (hn : Nat), .int .i64 (hu : Nat), .bool hs] 66)).cell? ⟨w1.heap.size, 1, none⟩ = some (.int .i64 (hi : Nat)) := blk_cell (j := 1) HHB.out rfl
  have f1 : (w1.alloc (.cells #[.int .i64 (hm : Nat), .int .i64 (hi : Nat), .int .u64 (hn : Nat), .int .i64 (hu : Nat), .bool hs] 66)).frozen? ⟨g, 1, none⟩ = false := blk_frozen 1 HRW.out.blk
  obtain ⟨p2, hp2⟩ : ∃ p2, p2 = p + hu := ⟨_, rfl⟩
  have k1 : (p : Int) + (hu : Int) = (p2 : Int) := by omega
  have k4 : wrap64 (p2 : Int) = (p2 : Int) := by have h1 := HUP.out; have h2 := HRW.out.hb; unfold wrap64; omega
  have HP2 := hide hp2
  obtain ⟨W5, hW5⟩ : ∃ W5, W5 = ((w1.alloc (.cells #[.int .i64 (hm : Nat), .int .i64 (hi : Nat), .int .u64 (hn : Nat), .int .i64 (hu : Nat), .bool hs] 66)).setCell ⟨g, 1, none⟩ (.int .i64 (p2 : Nat))).drew := ⟨_, rfl⟩
  have HON : Hid (Rdr W5 g T C v b dp p2 op ∧ Kp (fun q => q = g) w W5 ∧ ∀ q o, w.heap.size ≤ q → (w1.alloc (.cells #[.int .i64 (hm : Nat), .int .i64 (hi : Nat), .int .u64 (hn : Nat), .int .i64 (hu : Nat), .bool hs] 66)).heap[q]? = some o → W5.heap[q]? = some o) := by rw [hW5]; exact HRW.out.on HBW.out HGW.out p2 (by have := HUP.out; omega)
  have HRC5 := hide (HON.out.2.2 _ _ (Nat.le_refl _) HRC.out)
  have HCA5 : Hid (∀ j x, (#[.int .i64 (hm : Nat), .int .i64 (hi : Nat), .int .u64 (hn : Nat), .int .i64 (hu : Nat), .bool hs] : Array Value)[j]? = some x → W5.cell? ⟨w1.heap.size, 0 + j, none⟩ = some x) := fun j x hj => by rw [Nat.zero_add]; exact blk_cell (HON.out.2.2 _ _ HZW.out HHB.out) hj
  have HI5 : Hid ((Tryz.prog.info? 66).map (·.size) = some (#[.int .i64 (hm : Nat), .int .i64 (hi : Nat), .int .u64 (hn : Nat), .int .i64 (hu : Nat), .bool hs] : Array Value).size) := infoHd
  have HA5 : Hid ((#[.int .i64 (hm : Nat), .int .i64 (hi : Nat), .int .u64 (hn : Nat), .int .i64 (hu : Nat), .bool hs] : Array Value).all (·.oneCell') = true) := by show _ = _; simp [Value.oneCell']
  have HRR : Hid (Rdr (W5.setRow w.heap.size #[.int .i64 (hm : Nat), .int .i64 (hi : Nat), .int .u64 (hn : Nat), .int .i64 (hu : Nat), .bool hs]) g T C v b dp p2 op ∧ Kp (fun q => q = g) w (W5.setRow w.heap.size #[.int .i64 (hm : Nat), .int .i64 (hi : Nat), .int .u64 (hn : Nat), .int .i64 (hu : Nat), .bool hs])) := by
    have hkr := row_kp W5 w.heap.size #[.int .i64 (hm : Nat), .int .i64 (hi : Nat), .int .u64 (hn : Nat), .int .i64 (hu : Nat), .bool hs]
    have hgl : g < W5.heap.size := blk_lt HON.out.1.blk
    have hka := HON.out.2.1.trans hkr (fun q hq e => by omega)
    exact ⟨HRO.out.kps p2 op hka ((hkr.block _ hgl (fun e => by have := HGW.out; omega)).trans HON.out.1.blk) HON.out.1.hp HON.out.1.ho.1, hka⟩
  clear hp2
  by_cases h7 : hm = mj
  · have g1 : ((hm : Int) != (mj : Int)) = false := by rw [bne_eq_false_iff_eq]; omega
    by_cases h31 : hi = 31
    · as_aux_lemma =>
      have g2 : ((hi : Int) == 31) = true := beq_iff_eq.2 (by omega)
      have HK : Hid (lpiec b dp mj p op = .error (93, p)) := by show _ = _; rw [HIT2.out, if_pos (.inr h31)]
      have HBK : Hid (Kp (fun q => q = g) w (w1.alloc (.cells #[.int .i64 (hm : Nat), .int .i64 (hi : Nat), .int .u64 (hn : Nat), .int .i64 (hu : Nat), .bool hs] 66))) := Kp.mono (Kp.of_below (S := fun _ => False) HBW.out) (fun _ _ e => e.elim)
      clear HIT2 hW5 h7 h31
      go_wp2_with fail
      refine (giveUp_any _ 93 p).mono ?_
      rintro e w6 ⟨rfl, hw6⟩
      have hw6 := hw6.symm
      subst hw6
      go_wp2_with fail
      exact ⟨rfl, HBK.out, .inr ⟨93, p, HK.out, rfl⟩⟩
    · as_aux_lemma =>
      have g2 : ((hi : Int) == 31) = false := beq_eq_false_iff_ne.2 (by omega)
      have HK : Hid (lpiec b dp mj p op = .ok (⟨hm, hi, hn, hu, hs, he⟩, p2)) := by show _ = _; rw [HIT2.out, if_neg (fun h => h.elim (fun h => h h7) h31), HP2.out]
      clear HIT2 h7 h31
      go_wp2_with fail
      go_region
      rw [← hW5]
      clear hW5 c1 d3 d0 d1 f1
      go_wp2_with (first
        | (refine wpList_aggAt rfl rfl HI.out HAG.out w1.heap.size 0 #[.int .i64 (hm : Nat), .int .i64 (hi : Nat), .int .u64 (hn : Nat), .int .i64 (hu : Nat), .bool hs] rfl rfl HCA5.out ?_)
        | (refine wpList_storeRow rfl rfl w.heap.size #[.int .i64 0, .int .i64 0, .int .u64 0, .int .i64 0, .bool false] #[.int .i64 (hm : Nat), .int .i64 (hi : Nat), .int .u64 (hn : Nat), .int .i64 (hu : Nat), .bool hs] 66 rfl rfl HRC5.out HI5.out rfl HA5.out ?_))
      exact bodyPost_ret (end_h9 rfl (row_same HRC5.out) rfl rfl) rfl ⟨HRR.out.2, .inl ⟨_, HK.out, rfl, HRR.out.1⟩⟩
  · as_aux_lemma =>
    have g1 : ((hm : Int) != (mj : Int)) = true := by rw [bne_iff_ne]; omega
    have HK : Hid (lpiec b dp mj p op = .error (93, p)) := by show _ = _; rw [HIT2.out, if_pos (.inl h7)]
    have HBK : Hid (Kp (fun q => q = g) w (w1.alloc (.cells #[.int .i64 (hm : Nat), .int .i64 (hi : Nat), .int .u64 (hn : Nat), .int .i64 (hu : Nat), .bool hs] 66))) := Kp.mono (Kp.of_below (S := fun _ => False) HBW.out) (fun _ _ e => e.elim)
    clear HIT2 hW5 h7
    go_wp2_with fail
    refine (giveUp_any _ 93 p).mono ?_
    rintro e w6 ⟨rfl, hw6⟩
    have hw6 := hw6.symm
    subst hw6
    go_wp2_with fail
    exact ⟨rfl, HBK.out, .inr ⟨93, p, HK.out, rfl⟩⟩
end
section
open Go.RowKit Go
def lbrk (b : List Nat) (p : Nat) : Bool := decide (b[p]? = some 255)
def EndP (w : World) (g : Nat) (T : TypeId) (C : Array Value) (v : Value) (b : List Nat) (dp op : Nat) (R : Bool) (p' : Nat) (e : Ending) (w' : World) : Prop := e = .returned (.bool R) ∧ Rdr w' g T C v b dp p' op ∧ Kp (fun q => q = g) w w'
def lbp (b : List Nat) (p : Nat) : Nat := if lbrk b p = true then p + 1 else p
def lmo (b : List Nat) (p : Nat) (h : HR) (n : Nat) : Bool := if h.i = 31 then !lbrk b p else decide (n < h.n)
def lmp (b : List Nat) (p : Nat) (h : HR) : Nat := if h.i = 31 then lbp b p else p
theorem ended9_any {w : World} {g : Nat} {T : TypeId} {C : Array Value} {v : Value} {b : List Nat} {dp p op : Nat} (hR : Rdr w g T C v b dp p op) : Calls Tryz.prog 36 #[.pointer (some ⟨g, 0, none⟩)] w (EndP w g T C v b dp op (lbrk b p) (lbp b p)) := by
  have HR := hide hR
  have hbs := hR.bs w (Kp.refl _ _)
  have HBS : Hid (∀ wy, Below w.heap.size w wy → BSl wy v b) := fun wy hy => (hR.next hy).bs wy (Kp.refl _ _)
  have HPB := hide hR.hp
  have HBL := hide hR.hb
  obtain ⟨⟨a, cap, rfl, hn, hz⟩, _, hby⟩ := hbs
  have HC1 : Hid (∀ wy, Below w.heap.size w wy → wy.cell? ⟨g, 1, none⟩ = some (.int .i64 (p : Nat))) := fun wy hy => keep_below hy _ _ (blk_cell HR.out.blk (rcl_1 HR.out.z))
  have HC0 : Hid (∀ wy, Below w.heap.size w wy → wy.cell? ⟨g, 0, none⟩ = some (.slice a b.length cap)) := fun wy hy => keep_below hy _ _ (blk_cell HR.out.blk (rcl_0 HR.out.c0))
  have HBY := hide hby
  clear hR hn hz hby
  have hbd : Below w.heap.size w w.drew := Below.drew (Below.refl _ _)
  go_enter Tryz.func36, Tryz.ntmps36
  by_cases hne : p < b.length
  · obtain ⟨x, hx⟩ : ∃ x, b[p]? = some x := ⟨b[p], List.getElem?_eq_getElem hne⟩
    have hx2 : x < 256 := HBY.out x (List.mem_of_getElem? hx)
    have HLB : Hid (lbrk b p = decide (x = 255)) := by show _ = _; unfold lbrk; rw [hx]; simp
    obtain ⟨bk, off, ha2⟩ : ∃ bk off, a = some ⟨bk, off, none⟩ := by
      obtain ⟨a', c', e, _, hc⟩ := (HBS.out w (Below.refl _ _)).form
      injection e with e1 _ _
      obtain ⟨bk, off, e4, _⟩ := hc.resolve_left (fun h => by rw [h] at hne; simp at hne)
      exact ⟨bk, off, e1.trans e4⟩
    subst ha2
    have HCX : Hid (∀ wy, Below w.heap.size w wy → wy.cell? ⟨bk, off + p, none⟩ = some (.int .u8 (x : Nat))) := fun wy hy => by
      obtain ⟨a', c', e, _, hc⟩ := (HBS.out wy hy).form
      injection e with e1 _ _
      obtain ⟨bk', off', e4, h4⟩ := hc.resolve_left (fun h => by rw [h] at hne; simp at hne)
      have e5 := Option.some.inj (e1.trans e4)
      injection e5 with e6 e7 _
      subst e6
      subst e7
      have h5 := h4 p hne
      rw [List.getD_eq_getElem?_getD, hx] at h5
      exact h5
    have g1 : ((p : Int) == (b.length : Int)) = false := beq_eq_false_iff_ne.2 (by omega)
    have g2 : (p : Int) < (b.length : Int) := by omega
    have g3 : p < b.length := hne
    have HX2 := hide hx2
    clear hx hx2
    go_wp2_with fail
    refine heldStart (S := fun wy => Below w.heap.size w wy) (by kernel_rfl) ?_
    have hS := hbd
    clear hbd
    generalize w.drew = w2 at *
    refine heldTake 0 _ rfl (by kernel_rfl) (by kernel_rfl) (by kernel_rfl) (fun _ _ _ h => h) rfl hS (fun wy hy => by first | (go_simp; done) | (go_simp; rfl) | rfl) ?_
    (try simp only [Act.put]); (try simp only [LsA, Ls0, LsS])
    refine heldTake 1 _ rfl (by kernel_rfl) (by kernel_rfl) (by kernel_rfl) (fun _ _ _ h => h) rfl hS (fun wy hy => by first | (go_simp; done) | (go_simp; rfl) | rfl) ?_
    (try simp only [Act.put]); (try simp only [LsA, Ls0, LsS])
    refine heldTake 2 _ rfl (by kernel_rfl) (by kernel_rfl) (by kernel_rfl) (fun _ _ _ h => h) rfl hS (fun wy hy => by first | (go_simp; done) | (go_simp; rfl) | rfl) ?_
    (try simp only [Act.put]); (try simp only [LsA, Ls0, LsS])
    refine heldTake 3 _ rfl (by kernel_rfl) (by kernel_rfl) (by kernel_rfl) (fun _ _ _ h => h) rfl hS (fun wy hy => by have h0 := HC1.out wy hy; first | (go_simp; done) | (go_simp; rfl) | rfl) ?_
    (try simp only [Act.put]); (try simp only [LsA, Ls0, LsS])
    refine heldTake 4 _ rfl (by kernel_rfl) (by kernel_rfl) (by kernel_rfl) (fun _ _ _ h => h) rfl hS (fun wy hy => by first | (go_simp; done) | (go_simp; rfl) | rfl) ?_
    (try simp only [Act.put]); (try simp only [LsA, Ls0, LsS])
    refine heldTake 5 _ rfl (by kernel_rfl) (by kernel_rfl) (by kernel_rfl) (fun _ _ _ h => h) rfl hS (fun wy hy => by first | (go_simp; done) | (go_simp; rfl) | rfl) ?_
    (try simp only [Act.put]); (try simp only [LsA, Ls0, LsS])
    refine heldTake 6 _ rfl (by kernel_rfl) (by kernel_rfl) (by kernel_rfl) (fun _ _ _ h => h) rfl hS (fun wy hy => by first | (go_simp; done) | (go_simp; rfl) | rfl) ?_
    (try simp only [Act.put]); (try simp only [LsA, Ls0, LsS])
    refine heldTake 7 _ rfl (by kernel_rfl) (by kernel_rfl) (by kernel_rfl) (fun _ _ _ h => h) rfl hS (fun wy hy => by have h0 := HC0.out wy hy; first | (go_simp; done) | (go_simp; rfl) | rfl) ?_
    (try simp only [Act.put]); (try simp only [LsA, Ls0, LsS])
    refine heldTake 8 _ rfl (by kernel_rfl) (by kernel_rfl) (by kernel_rfl) (fun _ _ _ h => h) rfl hS (fun wy hy => by first | (go_simp; done) | (go_simp; rfl) | rfl) ?_
    (try simp only [Act.put]); (try simp only [LsA, Ls0, LsS])
    refine heldTake 9 (.bool false) rfl (by kernel_rfl) (by kernel_rfl) (by kernel_rfl) (fun _ _ _ h => h) rfl hS (fun wy hy => by go_simp; try simp [g1]) ?_
    (try simp only [Act.put]); (try simp only [LsA, Ls0, LsS])
    refine heldTake 10 _ rfl (by kernel_rfl) (by kernel_rfl) (by kernel_rfl) (fun _ _ _ h => h) rfl hS (fun wy hy => by first | (go_simp; done) | (go_simp; rfl) | rfl) ?_
    (try simp only [Act.put]); (try simp only [LsA, Ls0, LsS])
    refine heldTake 11 _ rfl (by kernel_rfl) (by kernel_rfl) (by kernel_rfl) (fun _ _ _ h => h) rfl hS (fun wy hy => by first | (go_simp; done) | (go_simp; rfl) | rfl) ?_
    (try simp only [Act.put]); (try simp only [LsA, Ls0, LsS])
    refine heldTake 12 _ rfl (by kernel_rfl) (by kernel_rfl) (by kernel_rfl) (fun _ _ _ h => h) rfl hS (fun wy hy => by first | (go_simp; done) | (go_simp; rfl) | rfl) ?_
    (try simp only [Act.put]); (try simp only [LsA, Ls0, LsS])
    refine heldTake 13 _ rfl (by kernel_rfl) (by kernel_rfl) (by kernel_rfl) (fun _ _ _ h => h) rfl hS (fun wy hy => by first | (go_simp; done) | (go_simp; rfl) | rfl) ?_
    (try simp only [Act.put]); (try simp only [LsA, Ls0, LsS])
    refine heldTake 14 _ rfl (by kernel_rfl) (by kernel_rfl) (by kernel_rfl) (fun _ _ _ h => h) rfl hS (fun wy hy => by have h0 := HC0.out wy hy; first | (go_simp; done) | (go_simp; rfl) | rfl) ?_
    (try simp only [Act.put]); (try simp only [LsA, Ls0, LsS])
    refine heldTake 15 _ rfl (by kernel_rfl) (by kernel_rfl) (by kernel_rfl) (fun _ _ _ h => h) rfl hS (fun wy hy => by first | (go_simp; done) | (go_simp; rfl) | rfl) ?_
    (try simp only [Act.put]); (try simp only [LsA, Ls0, LsS])
    refine heldTake 16 _ rfl (by kernel_rfl) (by kernel_rfl) (by kernel_rfl) (fun _ _ _ h => h) rfl hS (fun wy hy => by first | (go_simp; done) | (go_simp; rfl) | rfl) ?_
    (try simp only [Act.put]); (try simp only [LsA, Ls0, LsS])
    refine heldTake 17 _ rfl (by kernel_rfl) (by kernel_rfl) (by kernel_rfl) (fun _ _ _ h => h) rfl hS (fun wy hy => by first | (go_simp; done) | (go_simp; rfl) | rfl) ?_
    (try simp only [Act.put]); (try simp only [LsA, Ls0, LsS])
    refine heldTake 18 _ rfl (by kernel_rfl) (by kernel_rfl) (by kernel_rfl) (fun _ _ _ h => h) rfl hS (fun wy hy => by have h0 := HC1.out wy hy; first | (go_simp; done) | (go_simp; rfl) | rfl) ?_
    (try simp only [Act.put]); (try simp only [LsA, Ls0, LsS])
    refine heldTake 19 _ rfl (by kernel_rfl) (by kernel_rfl) (by kernel_rfl) (fun _ _ _ h => h) rfl hS (fun wy hy => by first | (go_simp; done) | (go_simp; rfl) | rfl) ?_
    (try simp only [Act.put]); (try simp only [LsA, Ls0, LsS])
    refine heldTake 20 _ rfl (by kernel_rfl) (by kernel_rfl) (by kernel_rfl) (fun _ _ _ h => h) rfl hS (fun wy hy => by have h0 := HCX.out wy hy; first | (go_simp; done) | (go_simp; rfl) | rfl) ?_
    (try simp only [Act.put]); (try simp only [LsA, Ls0, LsS])
    refine heldTake 21 _ rfl (by kernel_rfl) (by kernel_rfl) (by kernel_rfl) (fun _ _ _ h => h) rfl hS (fun wy hy => by first | (go_simp; done) | (go_simp; rfl) | rfl) ?_
    (try simp only [Act.put]); (try simp only [LsA, Ls0, LsS])
    refine heldTake 22 _ rfl (by kernel_rfl) (by kernel_rfl) (by kernel_rfl) (fun _ _ _ h => h) rfl hS (fun wy hy => by first | (go_simp; done) | (go_simp; rfl) | rfl) ?_
    (try simp only [Act.put]); (try simp only [LsA, Ls0, LsS])
    refine heldDone (by kernel_rfl) ?_
    have HS := hide hS
    have HR2 := hide (HR.out.next hS)
    clear hS
    have c1 : w2.cell? ⟨g, 1, none⟩ = some (.int .i64 (p : Nat)) := HC1.out w2 HS.out
    have f1 : w2.frozen? ⟨g, 1, none⟩ = false := blk_frozen 1 HR2.out.blk
    by_cases h255 : x = 255
    · have q1 : ((x : Int) != 255) = false := by rw [bne_eq_false_iff_eq]; omega
      have HT : Hid (lbrk b p = true) := by show _ = _; rw [HLB.out, decide_eq_true h255]
      obtain ⟨p2, hp2⟩ : ∃ p2, p2 = p + 1 := ⟨_, rfl⟩
      have k1 : (p : Int) + 1 = (p2 : Int) := by omega
      have k4 : wrap64 (p2 : Int) = (p2 : Int) := by have h2 := HBL.out; unfold wrap64; omega
      have HSE := hide (HR2.out.set1 p2 (by omega))
      have HP2 := hide hp2
      clear h255 hp2
      go_wp2_with fail
      go_ret
      have hk : Kp (fun q => q = g) w (w2.setCell ⟨g, 1, none⟩ (.int .i64 (p2 : Nat))) := ((Kp.of_below (S := fun _ => False) HS.out).mono (fun _ _ e => e.elim)).trans HSE.out.2 (fun _ _ e => e)
      have hr := HSE.out.1
      rw [HP2.out] at hr hk ⊢
      exact ⟨by rw [HT.out]; rfl, by unfold lbp; rw [if_pos HT.out]; exact hr, hk⟩
    · have q1 : ((x : Int) != 255) = true := by rw [bne_iff_ne]; omega
      have HF : Hid (lbrk b p = false) := by show _ = _; rw [HLB.out, decide_eq_false h255]
      have HK : Hid (Kp (fun q => q = g) w w2) := (Kp.of_below (S := fun _ => False) HS.out).mono (fun _ _ e => e.elim)
      clear h255
      go_wp2_with fail
      go_ret
      exact ⟨by rw [HF.out]; rfl, by unfold lbp; rw [if_neg (by rw [HF.out]; decide)]; exact HR2.out, HK.out⟩
  · have hpe : p = b.length := by have := HPB.out; omega
    have g1 : ((p : Int) == (b.length : Int)) = true := beq_iff_eq.2 (by omega)
    have HF : Hid (lbrk b p = false) := by show _ = _; unfold lbrk; rw [List.getElem?_eq_none (by omega)]; simp
    clear hpe hne
    go_wp2_with fail
    refine heldStart (S := fun wy => Below w.heap.size w wy) (by kernel_rfl) ?_
    have hS := hbd
    clear hbd
    generalize w.drew = w2 at *
    refine heldTake 0 _ rfl (by kernel_rfl) (by kernel_rfl) (by kernel_rfl) (fun _ _ _ h => h) rfl hS (fun wy hy => by first | (go_simp; done) | (go_simp; rfl) | rfl) ?_
    (try simp only [Act.put]); (try simp only [LsA, Ls0, LsS])
    refine heldTake 1 _ rfl (by kernel_rfl) (by kernel_rfl) (by kernel_rfl) (fun _ _ _ h => h) rfl hS (fun wy hy => by first | (go_simp; done) | (go_simp; rfl) | rfl) ?_
    (try simp only [Act.put]); (try simp only [LsA, Ls0, LsS])
    refine heldTake 2 _ rfl (by kernel_rfl) (by kernel_rfl) (by kernel_rfl) (fun _ _ _ h => h) rfl hS (fun wy hy => by first | (go_simp; done) | (go_simp; rfl) | rfl) ?_
    (try simp only [Act.put]); (try simp only [LsA, Ls0, LsS])
    refine heldTake 3 _ rfl (by kernel_rfl) (by kernel_rfl) (by kernel_rfl) (fun _ _ _ h => h) rfl hS (fun wy hy => by have h0 := HC1.out wy hy; first | (go_simp; done) | (go_simp; rfl) | rfl) ?_
    (try simp only [Act.put]); (try simp only [LsA, Ls0, LsS])
    refine heldTake 4 _ rfl (by kernel_rfl) (by kernel_rfl) (by kernel_rfl) (fun _ _ _ h => h) rfl hS (fun wy hy => by first | (go_simp; done) | (go_simp; rfl) | rfl) ?_
    (try simp only [Act.put]); (try simp only [LsA, Ls0, LsS])
    refine heldTake 5 _ rfl (by kernel_rfl) (by kernel_rfl) (by kernel_rfl) (fun _ _ _ h => h) rfl hS (fun wy hy => by first | (go_simp; done) | (go_simp; rfl) | rfl) ?_
    (try simp only [Act.put]); (try simp only [LsA, Ls0, LsS])
    refine heldTake 6 _ rfl (by kernel_rfl) (by kernel_rfl) (by kernel_rfl) (fun _ _ _ h => h) rfl hS (fun wy hy => by first | (go_simp; done) | (go_simp; rfl) | rfl) ?_
    (try simp only [Act.put]); (try simp only [LsA, Ls0, LsS])
    refine heldTake 7 _ rfl (by kernel_rfl) (by kernel_rfl) (by kernel_rfl) (fun _ _ _ h => h) rfl hS (fun wy hy => by have h0 := HC0.out wy hy; first | (go_simp; done) | (go_simp; rfl) | rfl) ?_
    (try simp only [Act.put]); (try simp only [LsA, Ls0, LsS])
    refine heldTake 8 _ rfl (by kernel_rfl) (by kernel_rfl) (by kernel_rfl) (fun _ _ _ h => h) rfl hS (fun wy hy => by first | (go_simp; done) | (go_simp; rfl) | rfl) ?_
    (try simp only [Act.put]); (try simp only [LsA, Ls0, LsS])
    refine heldTake 9 (.bool true) rfl (by kernel_rfl) (by kernel_rfl) (by kernel_rfl) (fun _ _ _ h => h) rfl hS (fun wy hy => by go_simp; try simp [g1]) ?_
    (try simp only [Act.put]); (try simp only [LsA, Ls0, LsS])
    refine heldTake 10 _ rfl (by kernel_rfl) (by kernel_rfl) (by kernel_rfl) (fun _ _ _ h => h) rfl hS (fun wy hy => by first | (go_simp; done) | (go_simp; rfl) | rfl) ?_
    (try simp only [Act.put]); (try simp only [LsA, Ls0, LsS])
    refine heldSkip 11 rfl (by kernel_rfl) (by kernel_rfl) (by kernel_rfl) (fun _ _ _ h => h) rfl hS ?_
    (try simp only [Act.put]); (try simp only [LsA, Ls0, LsS])
    refine heldSkip 12 rfl (by kernel_rfl) (by kernel_rfl) (by kernel_rfl) (fun _ _ _ h => h) rfl hS ?_
    (try simp only [Act.put]); (try simp only [LsA, Ls0, LsS])
    refine heldSkip 13 rfl (by kernel_rfl) (by kernel_rfl) (by kernel_rfl) (fun _ _ _ h => h) rfl hS ?_
    (try simp only [Act.put]); (try simp only [LsA, Ls0, LsS])
    refine heldSkip 14 rfl (by kernel_rfl) (by kernel_rfl) (by kernel_rfl) (fun _ _ _ h => h) rfl hS ?_
    (try simp only [Act.put]); (try simp only [LsA, Ls0, LsS])
    refine heldSkip 15 rfl (by kernel_rfl) (by kernel_rfl) (by kernel_rfl) (fun _ _ _ h => h) rfl hS ?_
    (try simp only [Act.put]); (try simp only [LsA, Ls0, LsS])
    refine heldSkip 16 rfl (by kernel_rfl) (by kernel_rfl) (by kernel_rfl) (fun _ _ _ h => h) rfl hS ?_
    (try simp only [Act.put]); (try simp only [LsA, Ls0, LsS])
    refine heldSkip 17 rfl (by kernel_rfl) (by kernel_rfl) (by kernel_rfl) (fun _ _ _ h => h) rfl hS ?_
    (try simp only [Act.put]); (try simp only [LsA, Ls0, LsS])
    refine heldSkip 18 rfl (by kernel_rfl) (by kernel_rfl) (by kernel_rfl) (fun _ _ _ h => h) rfl hS ?_
    (try simp only [Act.put]); (try simp only [LsA, Ls0, LsS])
    refine heldSkip 19 rfl (by kernel_rfl) (by kernel_rfl) (by kernel_rfl) (fun _ _ _ h => h) rfl hS ?_
    (try simp only [Act.put]); (try simp only [LsA, Ls0, LsS])
    refine heldSkip 20 rfl (by kernel_rfl) (by kernel_rfl) (by kernel_rfl) (fun _ _ _ h => h) rfl hS ?_
    (try simp only [Act.put]); (try simp only [LsA, Ls0, LsS])
    refine heldSkip 21 rfl (by kernel_rfl) (by kernel_rfl) (by kernel_rfl) (fun _ _ _ h => h) rfl hS ?_
    (try simp only [Act.put]); (try simp only [LsA, Ls0, LsS])
    refine heldTake 22 _ rfl (by kernel_rfl) (by kernel_rfl) (by kernel_rfl) (fun _ _ _ h => h) rfl hS (fun wy hy => by first | (go_simp; done) | (go_simp; rfl) | rfl) ?_
    (try simp only [Act.put]); (try simp only [LsA, Ls0, LsS])
    refine heldDone (by kernel_rfl) ?_
    have HS := hide hS
    have HR2 := hide (HR.out.next hS)
    have HK : Hid (Kp (fun q => q = g) w w2) := (Kp.of_below (S := fun _ => False) HS.out).mono (fun _ _ e => e.elim)
    clear hS
    go_wp2_with fail
    go_ret
    exact ⟨by rw [HF.out]; rfl, by unfold lbp; rw [if_neg (by rw [HF.out]; decide)]; exact HR2.out, HK.out⟩
theorem more9_any {w : World} {g : Nat} {T : TypeId} {C : Array Value} {v : Value} {b : List Nat} {dp p op : Nat} (hR : Rdr w g T C v b dp p op) (h : HR) (n : Nat) : Calls Tryz.prog 38 #[.pointer (some ⟨g, 0, none⟩), h.val, .int .u64 (n : Nat)] w (EndP w g T C v b dp op (lmo b p h n) (lmp b p h)) := by
  obtain ⟨hm, hi, hn, hu, hs, he⟩ := h
  have hba := below_alloc4 w (.cells #[.int .i64 (hm : Nat), .int .i64 (hi : Nat), .int .u64 (hn : Nat), .int .i64 (hu : Nat), .bool hs] 66)
  have HB := hide hba
  have HRd := hide (hR.next hba)
  have hg := heap_alloc_new w (.cells #[.int .i64 (hm : Nat), .int .i64 (hi : Nat), .int .u64 (hn : Nat), .int .i64 (hu : Nat), .bool hs] 66)
  have d1 : (w.alloc (.cells #[.int .i64 (hm : Nat), .int .i64 (hi : Nat), .int .u64 (hn : Nat), .int .i64 (hu : Nat), .bool hs] 66)).cell? ⟨w.heap.size, 1, none⟩ = some (.int .i64 (hi : Nat)) := blk_cell (j := 1) hg rfl
  have d2 : (w.alloc (.cells #[.int .i64 (hm : Nat), .int .i64 (hi : Nat), .int .u64 (hn : Nat), .int .i64 (hu : Nat), .bool hs] 66)).cell? ⟨w.heap.size, 2, none⟩ = some (.int .u64 (hn : Nat)) := blk_cell (j := 2) hg rfl
  have HKB : Hid (Kp (fun q => q = g) w (w.alloc (.cells #[.int .i64 (hm : Nat), .int .i64 (hi : Nat), .int .u64 (hn : Nat), .int .i64 (hu : Nat), .bool hs] 66))) := (Kp.of_below (S := fun _ => False) hba).mono (fun _ _ e => e.elim)
  simp only [HR.val]
  clear hR hba hg
  by_cases h31 : hi = 31
  · have g1 : ((hi : Int) == 31) = true := beq_iff_eq.2 (by omega)
    have H31 := hide h31
    clear h31
    go_enter Tryz.func38, Tryz.ntmps38
    go_wp2_with fail
    refine (ended9_any HRd.out).mono ?_
    rintro e w2 ⟨rfl, hr, hk⟩
    have HR2 := hide hr
    have HK2 : Hid (Kp (fun q => q = g) w w2) := HKB.out.trans hk (fun _ _ e => e)
    clear hr hk
    go_wp2_with fail
    go_ret
    exact ⟨by unfold lmo; rw [if_pos H31.out]; rfl, by unfold lmp; rw [if_pos H31.out]; exact HR2.out, HK2.out⟩
  · have g1 : ((hi : Int) == 31) = false := beq_eq_false_iff_ne.2 (by omega)
    have H31 := hide h31
    clear h31
    go_enter Tryz.func38, Tryz.ntmps38
    go_wp2_with fail
    go_ret
    refine ⟨?_, by unfold lmp; rw [if_neg H31.out]; exact HRd.out, HKB.out⟩
    unfold lmo
    rw [if_neg H31.out]
    simp
end
section
open Go.RowKit Go
def TakP (w : World) (g : Nat) (T : TypeId) (C : Array Value) (v : Value) (b : List Nat) (dp p op n : Nat) (e : Ending) (w' : World) : Prop := ∃ a' n' c', e = .returned (.slice a' n' c') ∧ (∀ wy, Kp (fun q => q = g) w' wy → BSl wy (.slice a' n' c') ((b.drop p).take n)) ∧ Rdr w' g T C v b dp (p + n) op ∧ Kp (fun q => q = g) w w'
theorem take9_any {w : World} {g : Nat} {T : TypeId} {C : Array Value} {v : Value} {b : List Nat} {dp p op : Nat} (hR : Rdr w g T C v b dp p op) (n : Nat) (hpn : p + n ≤ b.length) : Calls Tryz.prog 35 #[.pointer (some ⟨g, 0, none⟩), .int .u64 (n : Nat)] w (TakP w g T C v b dp p op n) := by
  have HR := hide hR
  have hbs := hR.bs w (Kp.refl _ _)
  have HPN := hide hpn
  have HBL := hide hR.hb
  obtain ⟨⟨a, cap, rfl, hn, hz⟩, _, _⟩ := hbs
  have HNC : Hid (b.length ≤ cap ∧ (a = none → cap = 0)) := hn
  have c1 : w.cell? ⟨g, 1, none⟩ = some (.int .i64 (p : Nat)) := blk_cell HR.out.blk (rcl_1 HR.out.z)
  have f1 : w.frozen? ⟨g, 1, none⟩ = false := blk_frozen 1 HR.out.blk
  have k0 : IntKind.i64.wrap (n : Int) = (n : Int) := by rw [IntKind.wrap_i64]; have h1 := HPN.out; have h2 := HBL.out; omega
  have k5 : wrap64 (n : Int) = (n : Int) := by have h1 := HPN.out; have h2 := HBL.out; unfold wrap64; omega
  obtain ⟨p2, hp2⟩ : ∃ p2, p2 = p + n := ⟨_, rfl⟩
  have k1 : (p : Int) + (n : Int) = (p2 : Int) := by omega
  have k4 : wrap64 (p2 : Int) = (p2 : Int) := by have h1 := HPN.out; have h2 := HBL.out; unfold wrap64; omega
  have HSE := hide (hR.set1 p2 (by omega))
  have HP2 := hide hp2
  clear hR hn hz hp2 hpn
  go_enter Tryz.func35, Tryz.ntmps35
  go_upto_region 3 with fail
  have HR3 := hide HSE.out.1
  have HK3 := hide HSE.out.2
  clear HSE c1 f1
  generalize w.setCell ⟨g, 1, none⟩ (.int .i64 (p2 : Nat)) = w1 at *
  have HDR : Hid (∀ wy, Kp (fun q => q = g) w1 wy → BSl wy (dropS a p2 cap p) ((b.drop p).take n)) := fun wy hy => by
    have h1 := bsl_take8 (k := p2) (HR3.out.bs wy hy) (by have := HPN.out; have := HP2.out; omega)
    have h2 := bsl_drop8 (k := p) h1 (by rw [List.length_take]; have := HPN.out; have := HP2.out; omega)
    rw [HP2.out] at h2 ⊢
    rw [List.drop_take, Nat.add_sub_cancel_left] at h2
    exact h2
  obtain ⟨a2, n2, c2, hd2⟩ : ∃ a2 n2 c2, dropS a p2 cap p = .slice a2 n2 c2 := by
    obtain ⟨⟨a2, c2, h1, h2, _⟩, _⟩ := HDR.out w1 (Kp.refl _ _)
    exact ⟨a2, _, c2, h1⟩
  rw [hd2] at HDR
  have x0 : ∀ t' : Ext w1, t'.w'.cell? ⟨g, 0, none⟩ = some (.slice a b.length cap) := fun t' => keep_below t'.h _ _ (blk_cell HR3.out.blk (rcl_0 HR3.out.c0))
  have x1 : ∀ t' : Ext w1, t'.w'.cell? ⟨g, 1, none⟩ = some (.int .i64 (p2 : Nat)) := fun t' => keep_below t'.h _ _ (blk_cell HR3.out.blk (rcl_1 HR3.out.z))
  refine region_ext (by kernel_rfl) (by kernel_rfl) ?_
  with_reducible refine wpQuiet_step (fun K hK => ?_)
  go_simp
  with_reducible refine hK _ ?_
  clear hK K
  with_reducible refine wpQuiet_step (fun K hK => ?_)
  go_simp
  with_reducible refine hK _ ?_
  clear hK K
  with_reducible refine wpQuiet_step (fun K hK => ?_)
  go_simp
  with_reducible refine hK _ ?_
  clear hK K
  with_reducible refine wpQuiet_step (fun K hK => ?_)
  go_simp
  with_reducible refine hK _ ?_
  clear hK K
  with_reducible refine wpQuiet_step (fun K hK => ?_)
  go_simp
  with_reducible refine hK _ ?_
  clear hK K
  with_reducible refine wpQuiet_step (fun K hK => ?_)
  go_simp
  with_reducible refine hK _ ?_
  clear hK K
  with_reducible refine wpQuiet_step (fun K hK => ?_)
  go_simp
  with_reducible refine hK _ ?_
  clear hK K
  with_reducible refine wpQuiet_step (fun K hK => ?_)
  go_simp
  with_reducible refine hK _ ?_
  clear hK K
  with_reducible refine wpQuiet_step (fun K hK => ?_)
  go_simp
  with_reducible refine hK _ ?_
  clear hK K
  with_reducible refine wpQuiet_step (fun K hK => ?_)
  refine qstep_exec rfl (.slice a2 n2 c2) (fun wq hq => by rw [← hd2]; exact exec_sub rfl rfl rfl rfl (by have := HP2.out; omega) (by have h1 := HPN.out; have h2 := HP2.out; omega) HNC.out.1 HNC.out.2) (hK _ ?_)
  clear hK K
  with_reducible refine wpQuiet_step (fun K hK => ?_)
  go_simp
  with_reducible refine hK _ ?_
  clear hK K
  refine wpQuiet_nil ?_
  rintro wx ⟨t2, rfl⟩
  have HB1 : Hid (Below w1.heap.size w1 t2.w') := t2.h
  clear x0 x1 hd2
  go_wp2_with fail
  go_ret
  have hk2 : Kp (fun q => q = g) w1 t2.w' := (Kp.of_below (S := fun _ => False) HB1.out).mono (fun _ _ e => e.elim)
  exact ⟨a2, n2, c2, rfl, fun wy hy => HDR.out wy (hk2.trans hy (fun _ _ e => e)), by rw [← HP2.out]; exact HR3.out.next HB1.out, HK3.out.trans hk2 (fun _ _ e => e)⟩
end
section
open Go.RowKit Go
theorem turn_riw {b : List Nat} {f : Nat → Lx Nat} (hf : ∀ p, p ≤ b.length → Ris b (fun x => x) p (f p)) : ∀ (t p : Nat), p ≤ b.length → Riw b (fun x => x) p (lturn f t p)
  | 0, p, h => ⟨fun x e => by unfold lturn at e; injection e with e; omega, fun _ _ e => (by cases e)⟩
  | t + 1, p, h => by
    unfold lturn
    refine Riw.bind (hf p h).riw (fun x e => ?_)
    exact turn_riw hf t x ((hf p h).ok x e).2
theorem turn_ris {b : List Nat} {f : Nat → Lx Nat} (hf : ∀ p, p ≤ b.length → Ris b (fun x => x) p (f p)) (t p : Nat) (hp : p ≤ b.length) (ht : 0 < t) : Ris b (fun x => x) p (lturn f t p) := by
  obtain ⟨s, rfl⟩ : ∃ s, t = s + 1 := ⟨t - 1, by omega⟩
  unfold lturn
  refine Ris.bind (hf p hp) (fun x e => ?_)
  exact turn_riw hf s x ((hf p hp).ok x e).2
theorem turn_more {b c : List Nat} {f f' : Nat → Lx Nat} (hf : ∀ p, p ≤ b.length → Ris b (fun x => x) p (f p)) (hf' : ∀ p, p ≤ (b ++ c).length → Ris (b ++ c) (fun x => x) p (f' p)) (hs : ∀ p, p ≤ b.length → Sr (fun x => x) (f p) (f' p)) : ∀ (t p : Nat), p ≤ b.length → Sr (fun x => x) (lturn f t p) (lturn f' t p)
  | 0, p, _ => Sr.yes _ _
  | t + 1, p, h => by
    unfold lturn
    have hl : (b ++ c).length = b.length + c.length := List.length_append
    refine Sr.bind (hs p h) (fun x e => turn_more hf hf' hs t x ((hf p h).ok x e).2) (fun x e => ?_)
    have h6 := turn_riw hf' t x ((hf' p (by omega)).ok x e).2
    exact ⟨fun c' q' e => (h6.bad c' q' e).1, fun y e => (h6.ok y e).1⟩
theorem ins_riw {b : List Nat} {f : Nat → Lx Nat} (hf : ∀ p, p ≤ b.length → Ris b (fun x => x) p (f p)) (h : HR) (t : Nat) (ht : 0 < t) : ∀ (j n p : Nat), p ≤ b.length → b.length + 1 ≤ p + j → Riw b (fun x => x) p (lins f b h t j n p)
  | 0, n, p, h1, h2 => by omega
  | j + 1, n, p, h1, h2 => by
    unfold lins
    by_cases h4 : (if h.i = 31 then b[p]? ≠ some 255 else n < h.n)
    · rw [if_pos h4]
      have hT := turn_ris hf t p h1 ht
      refine Riw.bind hT.riw (fun x e => ?_)
      have h5 := hT.ok x e
      exact ins_riw hf h t ht j (n + 1) x h5.2 (by omega)
    · rw [if_neg h4]
      refine ⟨fun x e => ?_, fun _ _ e => (by cases e)⟩
      injection e with e
      subst e
      by_cases h5 : h.i = 31
      · rw [if_pos h5] at h4 ⊢
        have := (List.getElem?_eq_some_iff.1 (Decidable.not_not.1 h4)).1
        omega
      · rw [if_neg h5]
        omega
theorem ins_more {b c : List Nat} {f f' : Nat → Lx Nat} (hf : ∀ p, p ≤ b.length → Ris b (fun x => x) p (f p)) (hf' : ∀ p, p ≤ (b ++ c).length → Ris (b ++ c) (fun x => x) p (f' p)) (hs : ∀ p, p ≤ b.length → Sr (fun x => x) (f p) (f' p)) (h0 : f b.length = .error (92, b.length)) (h : HR) (t : Nat) (ht : 0 < t) : ∀ (j n p : Nat), p ≤ b.length → (b ++ c).length + 1 ≤ p + j → Sr (fun x => x) (lins f b h t j n p) (lins f' (b ++ c) h t j n p)
  | 0, n, p, h1, h2 => by rw [List.length_append] at h2; omega
  | j + 1, n, p, h1, h2 => by
    have hl : (b ++ c).length = b.length + c.length := List.length_append
    have hgo : ∀ (x1 x2 : Lx Nat), (if h.i = 31 then b[p]? ≠ some 255 else n < h.n) → (if h.i = 31 then (b ++ c)[p]? ≠ some 255 else n < h.n) → x1 = lins f b h t (j + 1) n p → x2 = lins f' (b ++ c) h t (j + 1) n p → Sr (fun x => x) x1 x2 := fun x1 x2 g1 g2 e1 e2 => by
      subst e1
      subst e2
      unfold lins
      rw [if_pos g1, if_pos g2]
      have hT := turn_ris hf t p h1 ht
      have hT' := turn_ris hf' t p (by omega) ht
      refine Sr.bind (turn_more hf hf' hs t p h1) (fun x e => ?_) (fun x e => ?_)
      · have h5 := hT.ok x e
        exact ins_more hf hf' hs h0 h t ht j (n + 1) x h5.2 (by omega)
      · have h5 := hT'.ok x e
        have h6 := ins_riw hf' h t ht j (n + 1) x h5.2 (by omega)
        exact ⟨fun c' q' e => (h6.bad c' q' e).1, fun y e => (h6.ok y e).1⟩
    by_cases hp : p < b.length
    · have hg := get_more b c p hp
      by_cases h4 : (if h.i = 31 then b[p]? ≠ some 255 else n < h.n)
      · exact hgo _ _ h4 (by rw [hg]; exact h4) rfl rfl
      · unfold lins
        have g2 : ¬ (if h.i = 31 then (b ++ c)[p]? ≠ some 255 else n < h.n) := by rw [hg]; exact h4
        rw [if_neg h4, if_neg g2]
        exact Sr.yes _ _
    · have hpe : p = b.length := by omega
      subst hpe
      by_cases h5 : h.i = 31
      · have e : lins f b h t (j + 1) n b.length = .error (92, b.length) := by
          unfold lins
          have g1 : (if h.i = 31 then b[b.length]? ≠ some 255 else n < h.n) := by rw [if_pos h5, List.getElem?_eq_none (Nat.le_refl _)]; simp
          rw [if_pos g1]
          obtain ⟨s, rfl⟩ : ∃ s, t = s + 1 := ⟨t - 1, by omega⟩
          unfold lturn
          rw [h0]
          rfl
        rw [e]
        have h6 := ins_riw hf' h t ht (j + 1) n b.length (by omega) h2
        refine ⟨fun _ e => (by cases e), fun c' q' e hc => ?_, fun q e => ?_⟩
        · injection e with e
          injection e with e1 _
          exact absurd e1.symm hc
        · injection e with e
          injection e with _ e2
          subst e2
          exact ⟨fun c' q' e => (h6.bad c' q' e).1, fun y e => (h6.ok y e).1⟩
      · by_cases h4 : n < h.n
        · exact hgo _ _ (by rw [if_neg h5]; exact h4) (by rw [if_neg h5]; exact h4) rfl rfl
        · unfold lins
          have g1 : ¬ (if h.i = 31 then b[b.length]? ≠ some 255 else n < h.n) := by rw [if_neg h5]; exact h4
          have g2 : ¬ (if h.i = 31 then (b ++ c)[b.length]? ≠ some 255 else n < h.n) := by rw [if_neg h5]; exact h4
          rw [if_neg g1, if_neg g2]
          exact Sr.yes _ _
theorem item_end (b : List Nat) (dp op : Nat) : litem b dp b.length op = .error (92, b.length) := by
  unfold litem llook
  rw [List.drop_eq_nil_of_le (Nat.le_refl _)]
  rfl
theorem body_riw {b : List Nat} {f : Nat → Lx Nat} {dp J op : Nat} {y : HR × Nat} (hf : y.1.m = 4 ∨ y.1.m = 5 → ∀ p, p ≤ b.length → Ris b (fun x => x) p (f p)) (hJ : b.length + 1 ≤ J) (hy : Hdo b dp op y) (hp : y.2 ≤ b.length) : Riw b (fun x => x) y.2 (lbody f b dp J op y) := by
  unfold lbody
  by_cases h1 : y.1.m = 2 ∨ y.1.m = 3
  · rw [if_pos h1]
    by_cases h2 : y.1.i = 31
    · rw [if_pos h2]
      exact pcs_riw b dp _ op h1 J y.2 hp (by omega)
    · rw [if_neg h2]
      have ht : ltel y.1 = true := by
        unfold ltel
        rcases h1 with e | e <;> simp [e, h2]
      have := hy.t ht
      exact ⟨fun x e => by injection e with e; omega, fun _ _ e => (by cases e)⟩
  · rw [if_neg h1]
    by_cases h3 : y.1.m = 4 ∨ y.1.m = 5
    · rw [if_pos h3]
      exact ins_riw (hf h3) y.1 _ (by omega) J 0 y.2 hp (by omega)
    · rw [if_neg h3]
      exact ⟨fun x e => by injection e with e; omega, fun _ _ e => (by cases e)⟩
theorem skip_ris (b : List Nat) (dp J : Nat) (hJ : b.length + 1 ≤ J) : ∀ (k p op : Nat), op ≤ dp → dp + 1 ≤ op + k → p ≤ b.length → Ris b (fun x => x) p (lskip b dp J k p op)
  | 0, p, op, h1, h2, _ => by omega
  | k + 1, p, op, h1, h2, h3 => by
    unfold lskip
    have hI := item_ris b dp p op
    refine Ris.bind hI.1 (fun x e => ?_)
    have hx := (hI.1.ok x e).2
    have hT := tags_riw b dp op J x.1 x.2 hx (by omega) (hI.2 x e)
    refine Riw.bind hT.1 (fun y e => ?_)
    have hy := (hT.2 y e).1
    exact body_riw (fun hm q hq => skip_ris b dp J hJ k q (op + 1) (by have := hy.n hm; omega) (by omega) hq) hJ hy (hT.1.ok y e).2
theorem skip_more (b c : List Nat) (dp J : Nat) (hJ : (b ++ c).length + 1 ≤ J) : ∀ (k p op : Nat), op ≤ dp → dp + 1 ≤ op + k → p ≤ b.length → Sr (fun x => x) (lskip b dp J k p op) (lskip (b ++ c) dp J k p op)
  | 0, p, op, h1, h2, _ => by omega
  | k + 1, p, op, h1, h2, h3 => by
    have hl : (b ++ c).length = b.length + c.length := List.length_append
    unfold lskip
    have hI := item_ris b dp p op
    have hI' := item_ris (b ++ c) dp p op
    have hbody' : ∀ y, y.2 ≤ (b ++ c).length → Hdo (b ++ c) dp op y → Riw (b ++ c) (fun x => x) y.2 (lbody (fun q => lskip (b ++ c) dp J k q (op + 1)) (b ++ c) dp J op y) := fun y hy1 hy2 => body_riw (fun hm q hq => skip_ris (b ++ c) dp J hJ k q (op + 1) (by have := hy2.n hm; omega) (by omega) hq) hJ hy2 hy1
    refine Sr.bind (item_more b c dp p op h3) (fun x e => ?_) (fun x e => ?_)
    · have hx := (hI.1.ok x e).2
      have hT := tags_riw b dp op J x.1 x.2 hx (by omega) (hI.2 x e)
      have hx' := item_more b c dp p op h3 |>.ok x e
      have hT' := tags_riw (b ++ c) dp op J x.1 x.2 (hI'.1.ok x hx').2 (by omega) (hI'.2 x hx')
      refine Sr.bind (tags_more b c dp op J x.1 x.2 hx (by omega)) (fun y e => ?_) (fun y e => ?_)
      · have hy := (hT.2 y e).1
        have hyp := (hT.1.ok y e).2
        unfold lbody
        by_cases g1 : y.1.m = 2 ∨ y.1.m = 3
        · rw [if_pos g1, if_pos g1]
          by_cases g2 : y.1.i = 31
          · rw [if_pos g2, if_pos g2]
            exact pcs_more b c dp _ op g1 J y.2 hyp (by omega)
          · rw [if_neg g2, if_neg g2]
            exact Sr.yes _ _
        · rw [if_neg g1, if_neg g1]
          by_cases g3 : y.1.m = 4 ∨ y.1.m = 5
          · rw [if_pos g3, if_pos g3]
            have hop := hy.n g3
            refine ins_more (fun q hq => skip_ris b dp J (by omega) k q (op + 1) (by omega) (by omega) hq) (fun q hq => skip_ris (b ++ c) dp J hJ k q (op + 1) (by omega) (by omega) hq) (fun q hq => skip_more b c dp J hJ k q (op + 1) (by omega) (by omega) hq) ?_ y.1 _ (by omega) J 0 y.2 hyp (by omega)
            obtain ⟨k', rfl⟩ : ∃ k', k = k' + 1 := ⟨k - 1, by omega⟩
            unfold lskip
            rw [item_end]
            rfl
          · rw [if_neg g3, if_neg g3]
            exact Sr.yes _ _
      · have h6 := hbody' y (hT'.1.ok y e).2 (hT'.2 y e).1
        exact ⟨fun c' q' e => (h6.bad c' q' e).1, fun y e => (h6.ok y e).1⟩
    · have hx' := (hI'.1.ok x e).2
      have hT' := tags_riw (b ++ c) dp op J x.1 x.2 hx' (by omega) (hI'.2 x e)
      have h6 : Riw (b ++ c) (fun x => x) x.2 (lbind (ltags (b ++ c) dp op J x.1 x.2) fun y => lbody (fun q => lskip (b ++ c) dp J k q (op + 1)) (b ++ c) dp J op y) := Riw.bind hT'.1 (fun y e => hbody' y (hT'.1.ok y e).2 (hT'.2 y e).1)
      exact ⟨fun c' q' e => (h6.bad c' q' e).1, fun y e => (h6.ok y e).1⟩
theorem whole_more (b c : List Nat) (d : Int) (J : Nat) (hJ : (b ++ c).length + 1 ≤ J) :
    (lwhole b d J = (0, 0) → c ≠ [] → lwhole (b ++ c) d J = (94, b.length)) ∧ ((lwhole b d J).1 = 92 → (lwhole (b ++ c) d J).1 ≠ 0 → (lwhole b d J).2 ≤ (lwhole (b ++ c) d J).2) ∧ ((lwhole b d J).1 ≠ 0 → (lwhole b d J).1 ≠ 92 → lwhole (b ++ c) d J = lwhole b d J) := by
  unfold lwhole
  have hl : (b ++ c).length = b.length + c.length := List.length_append
  by_cases hd : d < 0 ∨ 1024 < d
  · rw [if_pos hd, if_pos hd]
    exact ⟨fun e => (by cases e), fun e => (by cases e), fun _ _ => rfl⟩
  · rw [if_neg hd, if_neg hd]
    have hs := skip_more b c d.toNat J hJ (d.toNat + 1) 0 0 (Nat.zero_le _) (by omega) (Nat.zero_le _)
    have hr := skip_ris b d.toNat J (by omega) (d.toNat + 1) 0 0 (Nat.zero_le _) (by omega) (Nat.zero_le _)
    cases hb : lskip b d.toNat J (d.toNat + 1) 0 0 with
    | ok p =>
      have hp := (hr.ok p hb).2
      rw [hs.ok p hb]
      simp only
      by_cases h1 : p < b.length
      · rw [if_pos h1, if_pos (by omega)]
        exact ⟨fun e => (by cases e), fun e => (by cases e), fun _ _ => rfl⟩
      · rw [if_neg h1]
        have hpe : p = b.length := by omega
        refine ⟨fun _ hc => ?_, fun e => (by cases e), fun e => absurd rfl e⟩
        have : 0 < c.length := List.length_pos_iff.2 hc
        rw [if_pos (by omega), hpe]
    | error e =>
      obtain ⟨k, q⟩ := e
      have hk := (hr.bad k q hb).2
      refine ⟨fun e => by injection e with e _; omega, fun e h0 => ?_, fun h0 h92 => ?_⟩
      · simp only at e
        subst e
        have hq := hs.short q hb
        cases hb' : lskip (b ++ c) d.toNat J (d.toNat + 1) 0 0 with
        | error e' =>
          obtain ⟨k', q'⟩ := e'
          exact hq.1 k' q' hb'
        | ok p' =>
          rw [hb'] at h0
          simp only at h0 ⊢
          by_cases h1 : p' < (b ++ c).length
          · rw [if_pos h1]
            exact hq.2 p' hb'
          · rw [if_neg h1] at h0
            exact absurd rfl h0
      · rw [hs.bad k q hb h92]
end
section
open Go.RowKit Go
def SkpP (w : World) (g : Nat) (T : TypeId) (C : Array Value) (v : Value) (b : List Nat) (dp op : Nat) (r : Lx Nat) (e : Ending) (w' : World) : Prop := Kp (fun q => q = g) w w' ∧ ((∃ p', r = .ok p' ∧ e = .returned (.tuple #[]) ∧ Rdr w' g T C v b dp p' op) ∨ ∃ c q, r = .error (c, q) ∧ e = gup c q)
def lstr (b : List Nat) (dp J op p : Nat) (h : HR) : Lx Nat := if h.i = 31 then lpcs b dp h.m op J p else .ok (p + h.n)
structure Rlp (w : World) (g : Nat) (T : TypeId) (C : Array Value) (v : Value) (b : List Nat) (dp op p : Nat) (wx : World) : Prop where
  r : Rdr wx g T C v b dp p op
  k : Kp (fun q => q = g) w wx
def rat (g : Nat) (w : World) : Nat := (intOf ((w.cell? ⟨g, 1, none⟩).getD undef)).toNat
theorem rat_eq {w : World} {g : Nat} {T : TypeId} {C : Array Value} {v : Value} {b : List Nat} {dp p op : Nat} (h : Rdr w g T C v b dp p op) : rat g w = p := by
  unfold rat
  rw [blk_cell h.blk (rcl_1 h.z)]
  simp [intOf]
theorem head_field2 (w : World) (m i n u : Nat) (s : Bool) : (Instr.field 66 (.agg #[.int .i64 (m : Nat), .int .i64 (i : Nat), .int .u64 (n : Nat), .int .i64 (u : Nat), .bool s]) 2).run Tryz.prog w = .ok (.int .u64 (n : Nat)) w := by kernel_rfl
theorem exec_hn9 {o : Oper} {a : Act} {x : Operand} {m i n u : Nat} {s : Bool} {w : World} (ho : o.op = .field 66 x 2) (hx : a.eval x = .agg #[.int .i64 (m : Nat), .int .i64 (i : Nat), .int .u64 (n : Nat), .int .i64 (u : Nat), .bool s]) : (execOp a.eval o).run Tryz.prog w = .ok (.value (.int .u64 (n : Nat))) w := by
  unfold execOp
  have hr := head_field2 w m i n u s
  simp only [ho, Sem.run_bind, hx, hr, Result.andThen_ok]
  rfl
theorem skipString9_any {w : World} {g : Nat} {T : TypeId} {C : Array Value} {v : Value} {b : List Nat} {dp p op : Nat} (hR : Rdr w g T C v b dp p op) (h : HR) (J : Nat) (hJ : b.length + 1 ≤ J) (hm : h.m = 2 ∨ h.m = 3) (hd : Hdo b dp op (h, p)) : Calls Tryz.prog 24 #[.pointer (some ⟨g, 0, none⟩), h.val] w (SkpP w g T C v b dp op (lstr b dp J op p h)) := by
  have HT : Hid (ltel h = true → p + h.n ≤ b.length) := hd.t
  obtain ⟨hm', hi, hn, hu, hs, he⟩ := h
  have HMJ : Hid (hm' = 2 ∨ hm' = 3) := hm
  have HLS : Hid (lstr b dp J op p ⟨hm', hi, hn, hu, hs, he⟩ = if hi = 31 then lpcs b dp hm' op J p else .ok (p + hn)) := rfl
  have HTT : Hid (hi ≠ 31 → p + hn ≤ b.length) := fun h31 => HT.out (by unfold ltel; rcases HMJ.out with e | e <;> simp [e, h31])
  have hba := below_alloc4 w (.cells #[.int .i64 (hm' : Nat), .int .i64 (hi : Nat), .int .u64 (hn : Nat), .int .i64 (hu : Nat), .bool hs] 66)
  have HRd := hide (hR.next hba)
  have hg := heap_alloc_new w (.cells #[.int .i64 (hm' : Nat), .int .i64 (hi : Nat), .int .u64 (hn : Nat), .int .i64 (hu : Nat), .bool hs] 66)
  have HHD := hide hg
  have d1 : (w.alloc (.cells #[.int .i64 (hm' : Nat), .int .i64 (hi : Nat), .int .u64 (hn : Nat), .int .i64 (hu : Nat), .bool hs] 66)).cell? ⟨w.heap.size, 1, none⟩ = some (.int .i64 (hi : Nat)) := blk_cell (j := 1) hg rfl
  have d2 : (w.alloc (.cells #[.int .i64 (hm' : Nat), .int .i64 (hi : Nat), .int .u64 (hn : Nat), .int .i64 (hu : Nat), .bool hs] 66)).cell? ⟨w.heap.size, 2, none⟩ = some (.int .u64 (hn : Nat)) := blk_cell (j := 2) hg rfl
  have HGW : Hid (g < w.heap.size) := blk_lt hR.blk
  have HKB : Hid (Kp (fun q => q = g) w (w.alloc (.cells #[.int .i64 (hm' : Nat), .int .i64 (hi : Nat), .int .u64 (hn : Nat), .int .i64 (hu : Nat), .bool hs] 66))) := (Kp.of_below (S := fun _ => False) hba).mono (fun _ _ e => e.elim)
  have HJJ := hide hJ
  simp only [HR.val]
  clear hR hba hg hJ hm hd HT
  generalize hls : lstr b dp J op p ⟨hm', hi, hn, hu, hs, he⟩ = LS at *
  clear hls
  by_cases h31 : hi = 31
  · have g1 : ((hi : Int) != 31) = false := by rw [bne_eq_false_iff_eq]; omega
    have HL : Hid (LS = lpcs b dp hm' op J p) := by show _ = _; rw [HLS.out, if_pos h31]
    have HX0 : Hid (∃ j q, Rlp (w.alloc (.cells #[.int .i64 (hm' : Nat), .int .i64 (hi : Nat), .int .u64 (hn : Nat), .int .i64 (hu : Nat), .bool hs] 66)) g T C v b dp op q (w.alloc (.cells #[.int .i64 (hm' : Nat), .int .i64 (hi : Nat), .int .u64 (hn : Nat), .int .i64 (hu : Nat), .bool hs] 66)) ∧ LS = lpcs b dp hm' op j q ∧ b.length + 1 ≤ q + j) := ⟨J, p, ⟨HRd.out, Kp.refl _ _⟩, HL.out, by have := HJJ.out; omega⟩
    clear h31 HLS HTT
    go_enter Tryz.func24, Tryz.ntmps24
    go_wp2_with fail
    generalize (w.alloc (.cells #[.int .i64 (hm' : Nat), .int .i64 (hi : Nat), .int .u64 (hn : Nat), .int .i64 (hu : Nat), .bool hs] 66)) = W0 at *
    go_loopw [] (fun wx => Hid (∃ j q, Rlp W0 g T C v b dp op q wx ∧ LS = lpcs b dp hm' op j q ∧ b.length + 1 ≤ q + j)) (fun wx => b.length - rat g wx)
    case atStart => exact HX0
    case round =>
      obtain ⟨j, q, hl, hls, hj⟩ := hrel.out
      have hql := hl.r.hp
      obtain ⟨j', rfl⟩ : ∃ j', j = j' + 1 := ⟨j - 1, by omega⟩
      have HRt := hide (rat_eq hl.r)
      have HRW := hide hl.r
      have HKW := hide hl.k
      have HLE : Hid (LS = if b[q]? = some 255 then .ok (q + 1) else lbind (lpiec b dp hm' q op) fun x => lpcs b dp hm' op j' (x.2 + x.1.n)) := hls
      have HJ2 : Hid (b.length + 1 ≤ q + (j' + 1)) := hj
      clear hl hls hj hql hrel HX0
      go_wp2_with fail
      refine (ended9_any HRW.out).mono ?_
      rintro e w2 ⟨rfl, hr2, hk2⟩
      have HK2 : Hid (Kp (fun q => q = g) W0 w2) := HKW.out.trans hk2 (fun _ _ e => e)
      have HBR : Hid (lbrk b q = decide (b[q]? = some 255)) := rfl
      have HR2 := hide hr2
      clear hr2 hk2
      generalize hbb : lbrk b q = bb at *
      have HLP : Hid (lbp b q = if bb = true then q + 1 else q) := by show _ = _; unfold lbp; rw [hbb]
      rw [HLP.out] at HR2
      clear hbb HLP
      cases bb with
      | true =>
        as_aux_lemma =>
        have HL2 : Hid (LS = .ok (q + 1)) := by show _ = _; rw [HLE.out, if_pos (of_decide_eq_true HBR.out.symm)]
        have HR3 : Hid (Rdr w2 g T C v b dp (q + 1) op) := HR2.out
        have HKE : Hid (Kp (fun q => q = g) w w2) := HKB.out.trans HK2.out (fun _ _ e => e)
        clear HR2 HLE HBR
        go_wp2_with fail
        first
          | (go_end0; exact ⟨HKE.out, .inl ⟨q + 1, HL2.out, rfl, HR3.out⟩⟩)
          | exact bodyPost_ret (results_none rfl _ _ _) rfl ⟨HKE.out, .inl ⟨q + 1, HL2.out, rfl, HR3.out⟩⟩
      | false =>
        have HL2 : Hid (LS = lbind (lpiec b dp hm' q op) fun x => lpcs b dp hm' op j' (x.2 + x.1.n)) := by show _ = _; rw [HLE.out, if_neg (of_decide_eq_false HBR.out.symm)]
        have HR3 : Hid (Rdr w2 g T C v b dp q op) := HR2.out
        have d0 : w2.cell? ⟨w.heap.size, 0, none⟩ = some (.int .i64 (hm' : Nat)) := blk_cell (j := 0) ((HK2.out.block _ (blk_lt HHD.out) (fun e => by have := HGW.out; omega)).trans HHD.out) rfl
        have HPR := hide (piec_ris b dp hm' q op HMJ.out)
        clear HR2 HLE HBR HRW HKW
        go_wp2_with fail
        refine (piece9_any HR3.out hm').mono ?_
        rintro e w3 ⟨hk3, ⟨x, hx, rfl, hr3⟩ | ⟨c, q', hx, he⟩⟩
        case inr =>
          as_aux_lemma =>
          have HL3 : Hid (LS = .error (c, q')) := by show _ = _; rw [HL2.out, hx]; rfl
          have HKE : Hid (Kp (fun q => q = g) w w3) := (HKB.out.trans HK2.out (fun _ _ e => e)).trans hk3 (fun _ _ e => e)
          unfold gup at he
          subst he
          clear hx hk3
          go_wp2_with fail
          exact ⟨rfl, HKE.out, .inr ⟨c, q', HL3.out, rfl⟩⟩
        obtain ⟨xh, xp⟩ := x
        have HPO := hide (HPR.out.ok _ hx)
        have HL3 : Hid (LS = lpcs b dp hm' op j' (xp + xh.n)) := by show _ = _; rw [HL2.out, hx]; rfl
        have HK3 : Hid (Kp (fun q => q = g) W0 w3) := HK2.out.trans hk3 (fun _ _ e => e)
        have HR4 := hide hr3
        clear hx hk3 hr3 HL2 HPR d0
        obtain ⟨xm, xi, xn, xu, xs, xe⟩ := xh
        simp only [HR.val]
        go_wp2_with (refine wpList_exec rfl (exec_hn9 rfl rfl) ?_)
        refine (take9_any HR4.out xn HPO.out.2).mono ?_
        rintro e w4 ⟨a', n', c', rfl, -, hr4, hk4⟩
        have HR5 := hide hr4
        have HK5 : Hid (Kp (fun q => q = g) W0 w4) := HK3.out.trans hk4 (fun _ _ e => e)
        have HRA := hide (rat_eq hr4)
        have HPZ : Hid (q < xp + xn ∧ xp + xn ≤ b.length) := HPO.out
        have HNX : Hid (∃ j q, Rlp W0 g T C v b dp op q w4 ∧ LS = lpcs b dp hm' op j q ∧ b.length + 1 ≤ q + j) := ⟨j', xp + xn, ⟨HR5.out, HK5.out⟩, HL3.out, by have h1 := HJ2.out; have h2 := HPZ.out; omega⟩
        clear hr4 hk4 HR4 HK3 HPO
        go_wp2_with fail
        go_roundw
        case rel => first | exact HNX | exact ⟨HNX, rfl⟩
        case measure => have h1 := HRt.out; have h2 := HRA.out; have h3 := HPZ.out; omega
  · have g1 : ((hi : Int) != 31) = true := by rw [bne_iff_ne]; omega
    have HL : Hid (LS = .ok (p + hn)) := by show _ = _; rw [HLS.out, if_neg h31]
    have HPN : Hid (p + hn ≤ b.length) := HTT.out h31
    clear h31 HLS HTT
    go_enter Tryz.func24, Tryz.ntmps24
    go_wp2_with fail
    refine (take9_any HRd.out hn HPN.out).mono ?_
    rintro e w2 ⟨a', n', c', rfl, -, hr, hk⟩
    have HR2 := hide hr
    have HK2 : Hid (Kp (fun q => q = g) w w2) := HKB.out.trans hk (fun _ _ e => e)
    clear hr hk
    go_wp2_with fail
    exact bodyPost_ret (results_none rfl _ _ _) rfl ⟨HK2.out, .inl ⟨p + hn, HL.out, rfl, HR2.out⟩⟩
end
section
open Go.RowKit Go
theorem rcl_set3 (C : Array Value) (p op op' : Nat) : (rcl C p op).setIfInBounds 3 (.int .i64 (op' : Nat)) = rcl C p op' := by
  unfold rcl
  rw [Array.setIfInBounds_setIfInBounds]
theorem Rdr.set3 {w : World} {g : Nat} {T : TypeId} {C : Array Value} {v : Value} {b : List Nat} {dp p op : Nat} (h : Rdr w g T C v b dp p op) (op' : Nat) (ho : op' ≤ dp) : Rdr (w.setCell ⟨g, 3, none⟩ (.int .i64 (op' : Nat))) g T C v b dp p op' ∧ Kp (fun q => q = g) w (w.setCell ⟨g, 3, none⟩ (.int .i64 (op' : Nat))) := by
  have hk : Kp (fun q => q = g) w (w.setCell ⟨g, 3, none⟩ (.int .i64 (op' : Nat))) := (Kp.refl (fun q => q = g) w).setCell _ _ (fun _ => rfl)
  refine ⟨h.kps p op' hk ?_ h.hp ho, hk⟩
  rw [← rcl_set3 C p op op']
  exact blk_set 3 _ h.blk
def SkipC (J k : Nat) : Prop := ∀ (w : World) (g : Nat) (T : TypeId) (C : Array Value) (v : Value) (b : List Nat) (dp p op : Nat), Rdr w g T C v b dp p op → b.length + 1 ≤ J → dp + 1 ≤ op + k → Calls Tryz.prog 19 #[.pointer (some ⟨g, 0, none⟩)] w (SkpP w g T C v b dp op (lskip b dp J k p op))
theorem turn_step (f : Nat → Lx Nat) (t q : Nat) (G : Nat → Lx Nat) : lbind (lturn f (t + 1) q) G = lbind (f q) fun x => lbind (lturn f t x) G := by
  show lbind (lbind (f q) fun x => lturn f t x) G = _
  cases f q with
  | ok x => rfl
  | error e => rfl
theorem lins_eq (f : Nat → Lx Nat) (b : List Nat) (h : HR) (t j n q : Nat) : lins f b h t (j + 1) n q = if (if h.i = 31 then b[q]? ≠ some 255 else n < h.n) then lbind (lturn f t q) (fun x => lins f b h t j (n + 1) x) else .ok (if h.i = 31 then q + 1 else q) := rfl
theorem ins_more9 (f : Nat → Lx Nat) (b : List Nat) (h : HR) (t j n q : Nat) (hm : lmo b q h n = true) : lins f b h t (j + 1) n q = lbind (lturn f t q) (fun x => lins f b h t j (n + 1) x) ∧ lmp b q h = q := by
  unfold lmo at hm
  by_cases h31 : h.i = 31
  · rw [if_pos h31] at hm
    have hb : lbrk b q = false := by simpa using hm
    have g1 : (if h.i = 31 then b[q]? ≠ some 255 else n < h.n) := by rw [if_pos h31]; exact of_decide_eq_false hb
    refine ⟨by rw [lins_eq, if_pos g1], ?_⟩
    unfold lmp lbp
    rw [if_pos h31, if_neg (by rw [hb]; decide)]
  · rw [if_neg h31] at hm
    have g1 : (if h.i = 31 then b[q]? ≠ some 255 else n < h.n) := by rw [if_neg h31]; exact of_decide_eq_true hm
    refine ⟨by rw [lins_eq, if_pos g1], ?_⟩
    unfold lmp
    rw [if_neg h31]
theorem ins_end9 (f : Nat → Lx Nat) (b : List Nat) (h : HR) (t j n q : Nat) (hm : lmo b q h n = false) : lins f b h t (j + 1) n q = .ok (lmp b q h) := by
  unfold lmo at hm
  by_cases h31 : h.i = 31
  · rw [if_pos h31] at hm
    have hb : lbrk b q = true := by simpa using hm
    have hb2 : b[q]? = some 255 := of_decide_eq_true hb
    have g1 : ¬ (if h.i = 31 then b[q]? ≠ some 255 else n < h.n) := by rw [if_pos h31]; exact fun h => h hb2
    rw [lins_eq, if_neg g1]
    unfold lmp lbp
    rw [if_pos h31, if_pos h31, if_pos hb]
  · rw [if_neg h31] at hm
    have g1 : ¬ (if h.i = 31 then b[q]? ≠ some 255 else n < h.n) := by rw [if_neg h31]; exact of_decide_eq_false hm
    rw [lins_eq, if_neg g1]
    unfold lmp
    rw [if_neg h31, if_neg h31]
theorem skipInside9_any {J k : Nat} (ih : SkipC J k) {w : World} {g : Nat} {T : TypeId} {C : Array Value} {v : Value} {b : List Nat} {dp p op : Nat} (hR : Rdr w g T C v b dp p op) (hop : op < dp) (h : HR) (t : Nat) (ht : t = 1 ∨ t = 2) (hJ : b.length + 1 ≤ J) (hk : dp + 1 ≤ op + 1 + k) : Calls Tryz.prog 25 #[.pointer (some ⟨g, 0, none⟩), h.val, .int .i64 (t : Nat)] w (SkpP w g T C v b dp op (lins (fun q => lskip b dp J k q (op + 1)) b h t J 0 p)) := by
  obtain ⟨LS, hLS⟩ : ∃ LS, LS = lins (fun q => lskip b dp J k q (op + 1)) b h t J 0 p := ⟨_, rfl⟩
  rw [← hLS]
  have HLS := hide hLS
  have HIH : Hid (∀ (w : World) (q : Nat), Rdr w g T C v b dp q (op + 1) → Calls Tryz.prog 19 #[.pointer (some ⟨g, 0, none⟩)] w (SkpP w g T C v b dp (op + 1) (lskip b dp J k q (op + 1)))) := fun w q hr => ih w g T C v b dp q (op + 1) hr hJ hk
  have HRI : Hid (∀ q, q ≤ b.length → Ris b (fun x => x) q (lskip b dp J k q (op + 1))) := fun q hq => skip_ris b dp J hJ k q (op + 1) hop hk hq
  have HJ := hide hJ
  clear hLS ih hk hJ
  obtain ⟨f, hf⟩ : ∃ f : Nat → Lx Nat, f = fun q => lskip b dp J k q (op + 1) := ⟨_, rfl⟩
  have HIF : Hid (∀ (w : World) (q : Nat), Rdr w g T C v b dp q (op + 1) → Calls Tryz.prog 19 #[.pointer (some ⟨g, 0, none⟩)] w (SkpP w g T C v b dp (op + 1) (f q))) := by rw [hf]; exact HIH.out
  have HRF : Hid (∀ q, q ≤ b.length → Ris b (fun x => x) q (f q)) := by rw [hf]; exact HRI.out
  rw [← hf] at HLS
  clear hf HIH HRI
  have HHE : Hid (∃ e', e' = h) := ⟨h, rfl⟩
  obtain ⟨hm, hi, hn, hu, hs, he⟩ := h
  have hba := below_alloc4 w (.cells #[.int .i64 (hm : Nat), .int .i64 (hi : Nat), .int .u64 (hn : Nat), .int .i64 (hu : Nat), .bool hs] 66)
  have HRd := hide (hR.next hba)
  have HHD := hide (heap_alloc_new w (.cells #[.int .i64 (hm : Nat), .int .i64 (hi : Nat), .int .u64 (hn : Nat), .int .i64 (hu : Nat), .bool hs] 66))
  have HGW : Hid (g < w.heap.size) := blk_lt hR.blk
  have HKB : Hid (Kp (fun q => q = g) w (w.alloc (.cells #[.int .i64 (hm : Nat), .int .i64 (hi : Nat), .int .u64 (hn : Nat), .int .i64 (hu : Nat), .bool hs] 66))) := (Kp.of_below (S := fun _ => False) hba).mono (fun _ _ e => e.elim)
  have HBL := hide hR.hb
  have HPB := hide hR.hp
  have HOD : Hid (op < dp ∧ dp ≤ 1024) := ⟨hop, hR.ho.2⟩
  have c3 : (w.alloc (.cells #[.int .i64 (hm : Nat), .int .i64 (hi : Nat), .int .u64 (hn : Nat), .int .i64 (hu : Nat), .bool hs] 66)).cell? ⟨g, 3, none⟩ = some (.int .i64 (op : Nat)) := blk_cell HRd.out.blk (rcl_3 HRd.out.z)
  have f3 : (w.alloc (.cells #[.int .i64 (hm : Nat), .int .i64 (hi : Nat), .int .u64 (hn : Nat), .int .i64 (hu : Nat), .bool hs] 66)).frozen? ⟨g, 3, none⟩ = false := blk_frozen 3 HRd.out.blk
  obtain ⟨o2, ho2⟩ : ∃ o2, o2 = op + 1 := ⟨_, rfl⟩
  have k1 : (op : Int) + 1 = (o2 : Int) := by omega
  have k4 : wrap64 (o2 : Int) = (o2 : Int) := by have h1 := HOD.out; unfold wrap64; omega
  have k2 : (o2 : Int) - 1 = (op : Int) := by omega
  have k5 : wrap64 (op : Int) = (op : Int) := by have h1 := HOD.out; unfold wrap64; omega
  rw [← ho2] at HIF
  have HSE := hide (HRd.out.set3 o2 (by omega))
  have HO2 := hide ho2
  have HTT := hide ht
  have HI := hide infoHd
  have HAG : Hid (∀ w, (isAgg 66).run Tryz.prog w = .ok true w) := aggHd
  simp only [HR.val]
  clear hR hba ht hop ho2 HHE
  go_enter Tryz.func25, Tryz.ntmps25
  go_wp2_with fail
  have HH0 := hide ((HSE.out.2.block _ (blk_lt HHD.out) (fun e => by have := HGW.out; omega)).trans HHD.out)
  have HR0 := hide HSE.out.1
  have HK0 : Hid (Kp (fun q => q = g) w ((w.alloc (.cells #[.int .i64 (hm : Nat), .int .i64 (hi : Nat), .int .u64 (hn : Nat), .int .i64 (hu : Nat), .bool hs] 66)).setCell ⟨g, 3, none⟩ (.int .i64 (o2 : Nat)))) := HKB.out.trans HSE.out.2 (fun _ _ e => e)
  generalize (w.alloc (.cells #[.int .i64 (hm : Nat), .int .i64 (hi : Nat), .int .u64 (hn : Nat), .int .i64 (hu : Nat), .bool hs] 66)).setCell ⟨g, 3, none⟩ (.int .i64 (o2 : Nat)) = W0 at *
  have HX0 : Hid (∃ j q, Rlp W0 g T C v b dp o2 q W0 ∧ LS = lins f b ⟨hm, hi, hn, hu, hs, he⟩ t j 0 q ∧ b.length + 1 ≤ q + j ∧ 0 ≤ q) := ⟨J, p, ⟨HR0.out, Kp.refl _ _⟩, HLS.out, by have := HJ.out; omega, Nat.zero_le _⟩
  clear HSE HHD HRd HKB c3 f3 HLS HR0
  go_loopw [6] (fun vn wx => ∃ n : Nat, vn = .int .u64 (n : Nat) ∧ Hid (∃ j q, Rlp W0 g T C v b dp o2 q wx ∧ LS = lins f b ⟨hm, hi, hn, hu, hs, he⟩ t j n q ∧ b.length + 1 ≤ q + j ∧ n ≤ q)) (fun _ wx => b.length - rat g wx)
  case atStart => exact ⟨0, rfl, HX0⟩
  case round =>
    obtain ⟨n, rfl, hrel⟩ := hrel
    obtain ⟨j, q, hl, hls, hj, hnq⟩ := hrel.out
    have hql := hl.r.hp
    obtain ⟨j', rfl⟩ : ∃ j', j = j' + 1 := ⟨j - 1, by omega⟩
    have HRt := hide (rat_eq hl.r)
    have HRW := hide hl.r
    have HKW := hide hl.k
    have HLE := hide hls
    have HJ2 : Hid (b.length + 1 ≤ q + (j' + 1) ∧ n ≤ q ∧ q ≤ b.length) := ⟨hj, hnq, hql⟩
    have HCA : Hid (∀ j x, (#[.int .i64 (hm : Nat), .int .i64 (hi : Nat), .int .u64 (hn : Nat), .int .i64 (hu : Nat), .bool hs] : Array Value)[j]? = some x → wr.cell? ⟨w.heap.size, 0 + j, none⟩ = some x) := fun j x hj => by rw [Nat.zero_add]; exact blk_cell ((hl.k.block _ (blk_lt HH0.out) (fun e => by have := HGW.out; omega)).trans HH0.out) hj
    clear hl hls hj hnq hql hrel HX0
    go_wp2_with (refine wpList_aggAt rfl rfl HI.out HAG.out w.heap.size 0 #[.int .i64 (hm : Nat), .int .i64 (hi : Nat), .int .u64 (hn : Nat), .int .i64 (hu : Nat), .bool hs] rfl rfl HCA.out ?_)
    refine (more9_any HRW.out ⟨hm, hi, hn, hu, hs, he⟩ n).mono ?_
    rintro e w2 ⟨rfl, hr2, hk2⟩
    have HK2 : Hid (Kp (fun q => q = g) W0 w2) := HKW.out.trans hk2 (fun _ _ e => e)
    have HR2 := hide hr2
    have HM1 := hide (fun hm' => ins_more9 f b ⟨hm, hi, hn, hu, hs, he⟩ t j' n q hm')
    have HM2 := hide (fun hm' => ins_end9 f b ⟨hm, hi, hn, hu, hs, he⟩ t j' n q hm')
    clear hr2 hk2 HCA HRW HKW
    generalize lmo b q ⟨hm, hi, hn, hu, hs, he⟩ n = mo at *
    cases mo with
    | false =>
      as_aux_lemma =>
      have HL2 : Hid (LS = .ok (lmp b q ⟨hm, hi, hn, hu, hs, he⟩)) := by show _ = _; rw [HLE.out, HM2.out rfl]
      generalize lmp b q ⟨hm, hi, hn, hu, hs, he⟩ = q2 at *
      have c3 : w2.cell? ⟨g, 3, none⟩ = some (.int .i64 (o2 : Nat)) := blk_cell HR2.out.blk (rcl_3 HR2.out.z)
      have f3 : w2.frozen? ⟨g, 3, none⟩ = false := blk_frozen 3 HR2.out.blk
      have HSE := hide (HR2.out.set3 op (by have := HOD.out; omega))
      have HKE : Hid (Kp (fun q => q = g) w (w2.setCell ⟨g, 3, none⟩ (.int .i64 (op : Nat)))) := (HK0.out.trans HK2.out (fun _ _ e => e)).trans HSE.out.2 (fun _ _ e => e)
      clear HM1 HM2 HLE
      go_wp2_with fail
      first
        | (go_end0; exact ⟨HKE.out, .inl ⟨q2, HL2.out, rfl, HSE.out.1⟩⟩)
        | exact bodyPost_ret (results_none rfl _ _ _) rfl ⟨HKE.out, .inl ⟨q2, HL2.out, rfl, HSE.out.1⟩⟩
    | true =>
      have HMM := hide (HM1.out rfl)
      have HL2 : Hid (LS = lbind (lturn f t q) fun x => lins f b ⟨hm, hi, hn, hu, hs, he⟩ t j' (n + 1) x) := by show _ = _; rw [HLE.out, HMM.out.1]
      have HR3 : Hid (Rdr w2 g T C v b dp q o2) := by have h := HR2.out; rw [HMM.out.2] at h; exact h
      have HY0 : Hid (∃ q2, Rlp W0 g T C v b dp o2 q2 w2 ∧ LS = lbind (lturn f (t - 0) q2) (fun x => lins f b ⟨hm, hi, hn, hu, hs, he⟩ t j' (n + 1) x) ∧ q + 0 ≤ q2) := ⟨q, ⟨HR3.out, HK2.out⟩, HL2.out, Nat.le_refl _⟩
      clear HM1 HM2 HLE HR2 HMM HL2 HR3 HK2
      go_wp2_with fail
      go_loopw [21] (fun vs wx => ∃ s : Nat, s ≤ t ∧ vs = .int .i64 (s : Nat) ∧ Hid (∃ q2, Rlp W0 g T C v b dp o2 q2 wx ∧ LS = lbind (lturn f (t - s) q2) (fun x => lins f b ⟨hm, hi, hn, hu, hs, he⟩ t j' (n + 1) x) ∧ q + s ≤ q2)) (fun vs _ => t - (intOf vs).toNat)
      case atStart => exact ⟨0, by omega, rfl, HY0⟩
      case round =>
        rename World => Y0
        clear HY0
        obtain ⟨s, hst, rfl, hrel⟩ := hrel
        obtain ⟨q2, hl, hls, hqs⟩ := hrel.out
        have hql := hl.r.hp
        have HR4 := hide hl.r
        have HK4 := hide hl.k
        have HQ2 : Hid (q + s ≤ q2 ∧ q2 ≤ b.length) := ⟨hqs, hql⟩
        have HLE := hide hls
        clear hl hls hqs hql hrel
        by_cases hlt : s < t
        · have g1 : (s : Int) < (t : Int) := by omega
          have HRS := hide (HRF.out q2 HQ2.out.2)
          have HL5 : Hid (LS = lbind (f q2) fun x => lbind (lturn f (t - (s + 1)) x) (fun x => lins f b ⟨hm, hi, hn, hu, hs, he⟩ t j' (n + 1) x)) := by
            show _ = _
            rw [HLE.out, show t - s = t - (s + 1) + 1 by omega, turn_step]
          clear HLE
          go_wp2_with fail
          refine (HIF.out Y0 q2 HR4.out).mono ?_
          rintro e w4 ⟨hk4, ⟨q3, hx, rfl, hr4⟩ | ⟨c, q', hx, he'⟩⟩
          case inr =>
            as_aux_lemma =>
            have HL3 : Hid (LS = .error (c, q')) := by show _ = _; rw [HL5.out, hx]; rfl
            have HKE : Hid (Kp (fun q => q = g) w w4) := (HK0.out.trans HK4.out (fun _ _ e => e)).trans hk4 (fun _ _ e => e)
            unfold gup at he'
            subst he'
            clear hx hk4
            go_wp2_with fail
            exact ⟨rfl, HKE.out, .inr ⟨c, q', HL3.out, rfl⟩⟩
          have h33 := (HRS.out.ok q3 hx).1
          have HNX : Hid (∃ q2, Rlp W0 g T C v b dp o2 q2 w4 ∧ LS = lbind (lturn f (t - (s + 1)) q2) (fun x => lins f b ⟨hm, hi, hn, hu, hs, he⟩ t j' (n + 1) x) ∧ q + (s + 1) ≤ q2) := ⟨q3, ⟨hr4, HK4.out.trans hk4 (fun _ _ e => e)⟩, by rw [HL5.out, hx]; rfl, by have := HQ2.out; omega⟩
          obtain ⟨s2, hs2⟩ : ∃ s2, s2 = s + 1 := ⟨_, rfl⟩
          have k8 : (s : Int) + 1 = (s2 : Int) := by omega
          have k9 : wrap64 (s2 : Int) = (s2 : Int) := by have h1 := HTT.out; unfold wrap64; omega
          rw [← hs2] at HNX
          have HS2 := hide hs2
          clear hk4 hx hr4 h33 HL5 HRS HR4 HK4 hs2
          go_wp2_with fail
          go_roundw
          case rel => (repeat (first | exact ⟨⟨s2, by have := HS2.out; omega, by rw [k9], HNX⟩, rfl⟩ | exact ⟨s2, by have := HS2.out; omega, by rw [k9], HNX⟩ | apply Exists.intro))
          case measure => have h9 := HS2.out; rw [k9]; simp only [intOf, Int.toNat_natCast]; omega
        · have g1 : ¬ (s : Int) < (t : Int) := by omega
          have hst2 : s = t := by omega
          have HRA := hide (rat_eq HR4.out)
          have HPZ : Hid (q + t ≤ q2 ∧ q2 ≤ b.length ∧ 1 ≤ t) := ⟨by have := HQ2.out; omega, HQ2.out.2, by have := HTT.out; omega⟩
          have HNX : Hid (∃ j q, Rlp W0 g T C v b dp o2 q Y0 ∧ LS = lins f b ⟨hm, hi, hn, hu, hs, he⟩ t j (n + 1) q ∧ b.length + 1 ≤ q + j ∧ n + 1 ≤ q) := ⟨j', q2, ⟨HR4.out, HK4.out⟩, by rw [HLE.out, hst2, Nat.sub_self]; rfl, by have h1 := HJ2.out; have h2 := HPZ.out; omega, by have h1 := HJ2.out; have h2 := HPZ.out; omega⟩
          obtain ⟨n2, hn2⟩ : ∃ n2, n2 = n + 1 := ⟨_, rfl⟩
          have k6 : (n : Int) + 1 = (n2 : Int) := by omega
          have k7 : IntKind.u64.wrap (n2 : Int) = (n2 : Int) := by rw [IntKind.wrap_u64]; have h1 := HJ2.out; have h2 := HBL.out; omega
          rw [← hn2] at HNX
          clear hn2 hst2 HLE HR4 HK4
          go_wp2_with fail
          go_roundw
          case rel => (repeat (first | exact ⟨⟨n2, by go_num, HNX⟩, rfl⟩ | exact ⟨n2, by go_num, HNX⟩ | exact ⟨n2, rfl, HNX⟩ | exact ⟨⟨n2, rfl, HNX⟩, rfl⟩ | apply Exists.intro))
          case measure => have h1 := HRt.out; have h2 := HRA.out; have h3 := HPZ.out; omega
end
section
open Go.RowKit Go
def hdc (h : HR) : Array Value := #[.int .i64 (h.m : Nat), .int .i64 (h.i : Nat), .int .u64 (h.n : Nat), .int .i64 (h.u : Nat), .bool h.s]
structure Skt (w : World) (g : Nat) (T : TypeId) (C : Array Value) (v : Value) (b : List Nat) (dp op R j : Nat) (h : HR) (q : Nat) (wx : World) : Prop where
  r : Rdr wx g T C v b dp q op
  k : Kp (fun q => q = g) w wx
  v : wx.heap[R]? = some (.cells (hdc h) 66 (0, 0))
  d : Hdo b dp op (h, q)
  j : b.length + 1 ≤ q + j
theorem skip9_step {J k : Nat} (ih : SkipC J k) : SkipC J (k + 1) := by
  intro w g T C v b dp p op hR hJ hk
  obtain ⟨f, hf⟩ : ∃ f : Nat → Lx Nat, f = fun q => lskip b dp J k q (op + 1) := ⟨_, rfl⟩
  obtain ⟨LS, hLS⟩ : ∃ LS, LS = lskip b dp J (k + 1) p op := ⟨_, rfl⟩
  rw [← hLS]
  have HLS : Hid (LS = lbind (litem b dp p op) fun x => lbind (ltags b dp op J x.1 x.2) fun y => lbody f b dp J op y) := by show _ = _; rw [hLS, hf]; rfl
  have HIN : Hid (∀ (w : World) (q : Nat) (h : HR) (t : Nat), Rdr w g T C v b dp q op → op < dp → (t = 1 ∨ t = 2) → Calls Tryz.prog 25 #[.pointer (some ⟨g, 0, none⟩), h.val, .int .i64 (t : Nat)] w (SkpP w g T C v b dp op (lins f b h t J 0 q))) := by rw [hf]; exact fun w q h t hr ho ht => skipInside9_any ih hr ho h t ht hJ (by omega)
  have HJ := hide hJ
  have HRo := hide hR
  have HGW : Hid (g < w.heap.size) := blk_lt hR.blk
  have HIR := hide (item_ris b dp p op)
  have HBL := hide hR.hb
  have HOD := hide hR.ho.1
  have HI := hide infoHd
  have HAG : Hid (∀ w, (isAgg 66).run Tryz.prog w = .ok true w) := aggHd
  clear hR hJ hLS hf ih hk
  go_enter Tryz.func19, Tryz.ntmps19
  go_wp2_with fail
  refine (item9_any HRo.out).mono ?_
  rintro e w1 ⟨hk1, ⟨x, hx, rfl, hr1⟩ | ⟨c, q', hx, he⟩⟩
  case inr =>
    as_aux_lemma =>
    have HL3 : Hid (LS = .error (c, q')) := by show _ = _; rw [HLS.out, hx]; rfl
    have HKE := hide hk1
    unfold gup at he
    subst he
    clear hx hk1
    go_wp2_with fail
    exact ⟨rfl, HKE.out, .inr ⟨c, q', HL3.out, rfl⟩⟩
  obtain ⟨xh, xp⟩ := x
  have HPO := hide (HIR.out.1.ok _ hx)
  have HDO := hide (HIR.out.2 _ hx)
  have HL1 : Hid (LS = lbind (ltags b dp op J xh xp) fun y => lbody f b dp J op y) := by show _ = _; rw [HLS.out, hx]; rfl
  have hba := below_alloc4 w1 (.cells (hdc xh) 66)
  have HX0 : Hid (∃ j h q, Skt w g T C v b dp op w1.heap.size j h q (w1.alloc (.cells (hdc xh) 66)) ∧ LS = lbind (ltags b dp op j h q) fun y => lbody f b dp J op y) := ⟨J, xh, xp, ⟨hr1.next hba, hk1.trans (Kp.of_below (S := fun _ => False) hba) (fun _ _ e => e.elim), heap_alloc_new w1 _, HDO.out, by have := HJ.out; omega⟩, HL1.out⟩
  have HZW : Hid (w.heap.size ≤ w1.heap.size) := hk1.size
  clear hx hk1 hr1 hba HLS HIR HPO HDO HL1
  unfold hdc at HX0
  obtain ⟨xm, xi, xn, xu, xs, xe⟩ := xh
  simp only [HR.val]
  simp only at HX0
  go_wp2_with fail
  generalize w1.alloc (.cells #[.int .i64 (xm : Nat), .int .i64 (xi : Nat), .int .u64 (xn : Nat), .int .i64 (xu : Nat), .bool xs] 66) = W1 at *
  generalize w1.heap.size = R at *
  go_loopw [] (fun wx => Hid (∃ j h q, Skt w g T C v b dp op R j h q wx ∧ LS = lbind (ltags b dp op j h q) fun y => lbody f b dp J op y)) (fun wx => b.length - rat g wx)
  case atStart => exact HX0
  case round =>
    obtain ⟨j, h, q, hl, hls⟩ := hrel.out
    have hql := hl.r.hp
    have hjj := hl.j
    obtain ⟨j', rfl⟩ : ∃ j', j = j' + 1 := ⟨j - 1, by omega⟩
    obtain ⟨hm, hi, hn, hu, hs, he⟩ := h
    have HRt := hide (rat_eq hl.r)
    have HRW := hide hl.r
    have HKW := hide hl.k
    have HDW := hide hl.d
    have HVW : Hid (wr.heap[R]? = some (.cells #[.int .i64 (hm : Nat), .int .i64 (hi : Nat), .int .u64 (hn : Nat), .int .i64 (hu : Nat), .bool hs] 66 (0, 0))) := hl.v
    have HLE : Hid (LS = lbind (if hm = 6 then lbind (litem b dp q op) (fun x => ltags b dp op j' x.1 x.2) else .ok (⟨hm, hi, hn, hu, hs, he⟩, q)) fun y => lbody f b dp J op y) := hls
    have HJ2 : Hid (b.length + 1 ≤ q + (j' + 1) ∧ q ≤ b.length) := ⟨hjj, hql⟩
    have d0 : wr.cell? ⟨R, 0, none⟩ = some (.int .i64 (hm : Nat)) := blk_cell (j := 0) HVW.out rfl
    have HCA : Hid (∀ j x, (#[.int .i64 (hm : Nat), .int .i64 (hi : Nat), .int .u64 (hn : Nat), .int .i64 (hu : Nat), .bool hs] : Array Value)[j]? = some x → wr.cell? ⟨R, 0 + j, none⟩ = some x) := fun j x hj => by rw [Nat.zero_add]; exact blk_cell HVW.out hj
    clear hl hls hjj hql hrel HX0
    by_cases h6 : hm = 6
    · have g1 : ((hm : Int) == 6) = true := beq_iff_eq.2 (by omega)
      have HL2 : Hid (LS = lbind (lbind (litem b dp q op) (fun x => ltags b dp op j' x.1 x.2)) fun y => lbody f b dp J op y) := by show _ = _; rw [HLE.out, if_pos h6]
      have HIR := hide (item_ris b dp q op)
      clear h6 HLE HDW HCA
      go_wp2_with fail
      refine (item9_any HRW.out).mono ?_
      rintro e w2 ⟨hk2, ⟨x, hx, rfl, hr2⟩ | ⟨c, q', hx, he'⟩⟩
      case inr =>
        as_aux_lemma =>
        have HL3 : Hid (LS = .error (c, q')) := by show _ = _; rw [HL2.out, hx]; rfl
        have HKE : Hid (Kp (fun q => q = g) w w2) := HKW.out.trans hk2 (fun _ _ e => e)
        unfold gup at he'
        subst he'
        clear hx hk2
        go_wp2_with fail
        exact ⟨rfl, HKE.out, .inr ⟨c, q', HL3.out, rfl⟩⟩
      obtain ⟨yh, yp⟩ := x
      have HPO : Hid (q < yp ∧ yp ≤ b.length) := HIR.out.1.ok _ hx
      have HDO := hide (HIR.out.2 _ hx)
      have HL3 : Hid (LS = lbind (ltags b dp op j' yh yp) fun y => lbody f b dp J op y) := by show _ = _; rw [HL2.out, hx]; rfl
      have HV2 := hide ((hk2.block _ (blk_lt HVW.out) (fun e => by have h1 := HGW.out; have h2 := HZW.out; omega)).trans HVW.out)
      have HR2 := hide hr2
      have HK2 : Hid (Kp (fun q => q = g) w w2) := HKW.out.trans hk2 (fun _ _ e => e)
      obtain ⟨ym, yi, yn, yu, ys, ye⟩ := yh
      have HI5 : Hid ((Tryz.prog.info? 66).map (·.size) = some (#[.int .i64 (ym : Nat), .int .i64 (yi : Nat), .int .u64 (yn : Nat), .int .i64 (yu : Nat), .bool ys] : Array Value).size) := infoHd
      have HA5 : Hid ((#[.int .i64 (ym : Nat), .int .i64 (yi : Nat), .int .u64 (yn : Nat), .int .i64 (yu : Nat), .bool ys] : Array Value).all (·.oneCell') = true) := by show _ = _; simp [Value.oneCell']
      have HNX : Hid (∃ j h q, Skt w g T C v b dp op R j h q (w2.setRow R #[.int .i64 (ym : Nat), .int .i64 (yi : Nat), .int .u64 (yn : Nat), .int .i64 (yu : Nat), .bool ys]) ∧ LS = lbind (ltags b dp op j h q) fun y => lbody f b dp J op y) := by
        have hkr := row_kp w2 R #[.int .i64 (ym : Nat), .int .i64 (yi : Nat), .int .u64 (yn : Nat), .int .i64 (yu : Nat), .bool ys]
        have hk3 : Kp (fun q => q = g) w (w2.setRow R #[.int .i64 (ym : Nat), .int .i64 (yi : Nat), .int .u64 (yn : Nat), .int .i64 (yu : Nat), .bool ys]) := HK2.out.trans hkr (fun q hq e => by have h2 := HZW.out; omega)
        have hgl : g < w2.heap.size := blk_lt HR2.out.blk
        refine ⟨j', ⟨ym, yi, yn, yu, ys, ye⟩, yp, ⟨HRo.out.kps yp op hk3 ((hkr.block _ hgl (fun e => by have h1 := HGW.out; have h2 := HZW.out; omega)).trans HR2.out.blk) HPO.out.2 HOD.out, hk3, row_same HV2.out, HDO.out, by have h1 := HJ2.out; have h2 := HPO.out; omega⟩, HL3.out⟩
      have HRA : Hid (rat g (w2.setRow R #[.int .i64 (ym : Nat), .int .i64 (yi : Nat), .int .u64 (yn : Nat), .int .i64 (yu : Nat), .bool ys]) = yp) := by
        obtain ⟨_, _, q9, h9, _⟩ := HNX.out
        have hkr := row_kp w2 R #[.int .i64 (ym : Nat), .int .i64 (yi : Nat), .int .u64 (yn : Nat), .int .i64 (yu : Nat), .bool ys]
        have hgl : g < w2.heap.size := blk_lt HR2.out.blk
        have hb9 := (hkr.block _ hgl (fun e => by have h1 := HGW.out; have h2 := HZW.out; omega)).trans HR2.out.blk
        show _ = _
        unfold rat
        rw [blk_cell hb9 (rcl_1 HR2.out.z)]
        simp [intOf]
      simp only [HR.val]
      clear hx hk2 hr2 HL2 HL3 HIR d0
      go_wp2_with (refine wpList_storeRow rfl rfl R #[.int .i64 (hm : Nat), .int .i64 (hi : Nat), .int .u64 (hn : Nat), .int .i64 (hu : Nat), .bool hs] #[.int .i64 (ym : Nat), .int .i64 (yi : Nat), .int .u64 (yn : Nat), .int .i64 (yu : Nat), .bool ys] 66 rfl rfl HV2.out HI5.out rfl HA5.out ?_)
      have h1 := HRt.out
      have h2 := HRA.out
      have h3 := HPO.out
      omega
    · have g1 : ((hm : Int) == 6) = false := beq_eq_false_iff_ne.2 (by omega)
      have HL2 : Hid (LS = lbody f b dp J op (⟨hm, hi, hn, hu, hs, he⟩, q)) := by show _ = _; rw [HLE.out, if_neg h6]; rfl
      clear h6 HLE
      have HL0 : Hid (LS = if hm = 2 ∨ hm = 3 then lstr b dp J op q ⟨hm, hi, hn, hu, hs, he⟩ else if hm = 4 ∨ hm = 5 then lins f b ⟨hm, hi, hn, hu, hs, he⟩ (hm - 3) J 0 q else .ok q) := HL2.out
      clear HL2
      have HOP : Hid (hm = 4 ∨ hm = 5 → op < dp) := fun h => by have h1 := HDW.out.n h; have h2 := HOD.out; omega
      by_cases h2 : hm = 2
      · as_aux_lemma =>
        have g2 : ((hm : Int) == 2) = true := beq_iff_eq.2 (by omega)
        have HL2 : Hid (LS = lstr b dp J op q ⟨hm, hi, hn, hu, hs, he⟩) := by show _ = _; rw [HL0.out, if_pos (.inl h2)]
        have HSS := hide (skipString9_any HRW.out ⟨hm, hi, hn, hu, hs, he⟩ J HJ.out (.inl h2) HDW.out)
        clear h2 HL0
        go_wp2_with (refine wpList_aggAt rfl rfl HI.out HAG.out R 0 #[.int .i64 (hm : Nat), .int .i64 (hi : Nat), .int .u64 (hn : Nat), .int .i64 (hu : Nat), .bool hs] rfl rfl HCA.out ?_)
        refine (HSS.out).mono ?_
        rintro e w2 ⟨hk2, ⟨q2, hx, rfl, hr2⟩ | ⟨c, q', hx, he'⟩⟩
        · have HL3 : Hid (LS = .ok q2) := by show _ = _; rw [HL2.out, hx]
          have HKE : Hid (Kp (fun q => q = g) w w2) := HKW.out.trans hk2 (fun _ _ e => e)
          have HRE := hide hr2
          clear hx hk2 hr2
          go_wp2_with fail
          first
            | (go_end0; exact ⟨HKE.out, .inl ⟨q2, HL3.out, rfl, HRE.out⟩⟩)
            | exact bodyPost_ret (results_none rfl _ _ _) rfl ⟨HKE.out, .inl ⟨q2, HL3.out, rfl, HRE.out⟩⟩
        · have HL3 : Hid (LS = .error (c, q')) := by show _ = _; rw [HL2.out, hx]
          have HKE : Hid (Kp (fun q => q = g) w w2) := HKW.out.trans hk2 (fun _ _ e => e)
          unfold gup at he'
          subst he'
          clear hx hk2
          go_wp2_with fail
          exact ⟨rfl, HKE.out, .inr ⟨c, q', HL3.out, rfl⟩⟩
      have g2 : ((hm : Int) == 2) = false := beq_eq_false_iff_ne.2 (by omega)
      by_cases h3 : hm = 3
      · as_aux_lemma =>
        have g3 : ((hm : Int) == 3) = true := beq_iff_eq.2 (by omega)
        have HL2 : Hid (LS = lstr b dp J op q ⟨hm, hi, hn, hu, hs, he⟩) := by show _ = _; rw [HL0.out, if_pos (.inr h3)]
        have HSS := hide (skipString9_any HRW.out ⟨hm, hi, hn, hu, hs, he⟩ J HJ.out (.inr h3) HDW.out)
        clear h2 h3 HL0
        go_wp2_with (refine wpList_aggAt rfl rfl HI.out HAG.out R 0 #[.int .i64 (hm : Nat), .int .i64 (hi : Nat), .int .u64 (hn : Nat), .int .i64 (hu : Nat), .bool hs] rfl rfl HCA.out ?_)
        refine (HSS.out).mono ?_
        rintro e w2 ⟨hk2, ⟨q2, hx, rfl, hr2⟩ | ⟨c, q', hx, he'⟩⟩
        · have HL3 : Hid (LS = .ok q2) := by show _ = _; rw [HL2.out, hx]
          have HKE : Hid (Kp (fun q => q = g) w w2) := HKW.out.trans hk2 (fun _ _ e => e)
          have HRE := hide hr2
          clear hx hk2 hr2
          go_wp2_with fail
          first
            | (go_end0; exact ⟨HKE.out, .inl ⟨q2, HL3.out, rfl, HRE.out⟩⟩)
            | exact bodyPost_ret (results_none rfl _ _ _) rfl ⟨HKE.out, .inl ⟨q2, HL3.out, rfl, HRE.out⟩⟩
        · have HL3 : Hid (LS = .error (c, q')) := by show _ = _; rw [HL2.out, hx]
          have HKE : Hid (Kp (fun q => q = g) w w2) := HKW.out.trans hk2 (fun _ _ e => e)
          unfold gup at he'
          subst he'
          clear hx hk2
          go_wp2_with fail
          exact ⟨rfl, HKE.out, .inr ⟨c, q', HL3.out, rfl⟩⟩
      have g3 : ((hm : Int) == 3) = false := beq_eq_false_iff_ne.2 (by omega)
      by_cases h5 : hm = 5
      · as_aux_lemma =>
        have g5 : ((hm : Int) == 5) = true := beq_iff_eq.2 (by omega)
        have HL2 : Hid (LS = lins f b ⟨hm, hi, hn, hu, hs, he⟩ 2 J 0 q) := by show _ = _; rw [HL0.out, if_neg (by omega), if_pos (.inr h5), h5]
        have HSS := hide (HIN.out wr q ⟨hm, hi, hn, hu, hs, he⟩ 2 HRW.out (HOP.out (.inr h5)) (.inr rfl))
        clear h2 h3 h5 HL0
        go_wp2_with (refine wpList_aggAt rfl rfl HI.out HAG.out R 0 #[.int .i64 (hm : Nat), .int .i64 (hi : Nat), .int .u64 (hn : Nat), .int .i64 (hu : Nat), .bool hs] rfl rfl HCA.out ?_)
        refine (HSS.out).mono ?_
        rintro e w2 ⟨hk2, ⟨q2, hx, rfl, hr2⟩ | ⟨c, q', hx, he'⟩⟩
        · have HL3 : Hid (LS = .ok q2) := by show _ = _; rw [HL2.out, hx]
          have HKE : Hid (Kp (fun q => q = g) w w2) := HKW.out.trans hk2 (fun _ _ e => e)
          have HRE := hide hr2
          clear hx hk2 hr2
          go_wp2_with fail
          first
            | (go_end0; exact ⟨HKE.out, .inl ⟨q2, HL3.out, rfl, HRE.out⟩⟩)
            | exact bodyPost_ret (results_none rfl _ _ _) rfl ⟨HKE.out, .inl ⟨q2, HL3.out, rfl, HRE.out⟩⟩
        · have HL3 : Hid (LS = .error (c, q')) := by show _ = _; rw [HL2.out, hx]
          have HKE : Hid (Kp (fun q => q = g) w w2) := HKW.out.trans hk2 (fun _ _ e => e)
          unfold gup at he'
          subst he'
          clear hx hk2
          go_wp2_with fail
          exact ⟨rfl, HKE.out, .inr ⟨c, q', HL3.out, rfl⟩⟩
      have g5 : ((hm : Int) == 5) = false := beq_eq_false_iff_ne.2 (by omega)
      by_cases h4 : hm = 4
      · as_aux_lemma =>
        have g4 : ((hm : Int) == 4) = true := beq_iff_eq.2 (by omega)
        have HL2 : Hid (LS = lins f b ⟨hm, hi, hn, hu, hs, he⟩ 1 J 0 q) := by show _ = _; rw [HL0.out, if_neg (by omega), if_pos (.inl h4), h4]
        have HSS := hide (HIN.out wr q ⟨hm, hi, hn, hu, hs, he⟩ 1 HRW.out (HOP.out (.inl h4)) (.inl rfl))
        clear h2 h3 h5 h4 HL0
        go_wp2_with (refine wpList_aggAt rfl rfl HI.out HAG.out R 0 #[.int .i64 (hm : Nat), .int .i64 (hi : Nat), .int .u64 (hn : Nat), .int .i64 (hu : Nat), .bool hs] rfl rfl HCA.out ?_)
        refine (HSS.out).mono ?_
        rintro e w2 ⟨hk2, ⟨q2, hx, rfl, hr2⟩ | ⟨c, q', hx, he'⟩⟩
        · have HL3 : Hid (LS = .ok q2) := by show _ = _; rw [HL2.out, hx]
          have HKE : Hid (Kp (fun q => q = g) w w2) := HKW.out.trans hk2 (fun _ _ e => e)
          have HRE := hide hr2
          clear hx hk2 hr2
          go_wp2_with fail
          first
            | (go_end0; exact ⟨HKE.out, .inl ⟨q2, HL3.out, rfl, HRE.out⟩⟩)
            | exact bodyPost_ret (results_none rfl _ _ _) rfl ⟨HKE.out, .inl ⟨q2, HL3.out, rfl, HRE.out⟩⟩
        · have HL3 : Hid (LS = .error (c, q')) := by show _ = _; rw [HL2.out, hx]
          have HKE : Hid (Kp (fun q => q = g) w w2) := HKW.out.trans hk2 (fun _ _ e => e)
          unfold gup at he'
          subst he'
          clear hx hk2
          go_wp2_with fail
          exact ⟨rfl, HKE.out, .inr ⟨c, q', HL3.out, rfl⟩⟩
      have g4 : ((hm : Int) == 4) = false := beq_eq_false_iff_ne.2 (by omega)
      have HL3 : Hid (LS = .ok q) := by show _ = _; rw [HL0.out, if_neg (by omega), if_neg (by omega)]
      clear h2 h3 h5 h4 HL0
      go_wp2_with fail
      first
        | (go_end0; exact ⟨HKW.out, .inl ⟨q, HL3.out, rfl, HRW.out⟩⟩)
        | exact bodyPost_ret (results_none rfl _ _ _) rfl ⟨HKW.out, .inl ⟨q, HL3.out, rfl, HRW.out⟩⟩
theorem skip9_any (J : Nat) : ∀ k, SkipC J k
  | 0 => fun w g T C v b dp p op hR _ hk => by have := hR.ho.1; omega
  | k + 1 => skip9_step (skip9_any J k)
end
section
open Go.RowKit Go
theorem infoFt : (Tryz.prog.info? 31).map (·.size) = some 2 := by kernel_rfl
theorem end_f9 {wx : World} {R : Nat} {c : Array Value} {fn : Func} {p : Tmp} {tmps : Array Value} (hf : fn.results = #[.cell p 31]) (hr : wx.heap[R]? = some (.cells c 31 (0, 0))) (hp : tmps.getD p undef = .pointer (some ⟨R, 0, none⟩)) (hn : c.size = 2) : (results fn tmps).run Tryz.prog wx = .ok (.agg c) wx :=
  results_cell_row hf tmps wx R 31 c (0, 0) _ hp hr Tryz.underlying31 rfl (by rw [hn]; exact infoFt)
theorem fault_assert (w : World) (c q : Nat) : (Instr.typeAssert (.iface 31 (.agg #[.int .i64 (c : Nat), .int .i64 (q : Nat)])) 20 31 false).run Tryz.prog w = .ok (.agg #[.int .i64 (c : Nat), .int .i64 (q : Nat)]) w := by kernel_rfl
theorem faultOf9_some (w : World) (c q : Nat) : Calls Tryz.prog 12 #[.iface 31 (.agg #[.int .i64 (c : Nat), .int .i64 (q : Nat)])] w fun e w' => e = .returned (.agg #[.int .i64 (c : Nat), .int .i64 (q : Nat)]) ∧ Below w.heap.size w w' := by
  have hb0 := below_alloc4 w (.cells #[.int .i64 0, .int .i64 0] 31)
  have HB0 := hide hb0
  have HR0 := hide (heap_alloc_new w (.cells #[.int .i64 0, .int .i64 0] 31))
  have hta := fun w => fault_assert w c q
  have HI5 : Hid ((Tryz.prog.info? 31).map (·.size) = some (#[.int .i64 (c : Nat), .int .i64 (q : Nat)] : Array Value).size) := infoFt
  have HA5 : Hid ((#[.int .i64 (c : Nat), .int .i64 (q : Nat)] : Array Value).all (·.oneCell') = true) := by show _ = _; simp [Value.oneCell']
  clear hb0
  go_enter Tryz.func12, Tryz.ntmps12
  go_wp2_with (refine wpList_storeRow rfl rfl w.heap.size #[.int .i64 0, .int .i64 0] #[.int .i64 (c : Nat), .int .i64 (q : Nat)] 31 rfl rfl HR0.out HI5.out rfl HA5.out ?_)
  exact bodyPost_ret (end_f9 rfl (row_same HR0.out) rfl rfl) rfl ⟨rfl, HB0.out.trans ((row_kp _ _ _).below HB0.out.size (fun q e => by omega))⟩
theorem faultOf9_none (w : World) : Calls Tryz.prog 12 #[.nilIface] w fun e w' => e = .returned (.agg #[.int .i64 0, .int .i64 0]) ∧ Below w.heap.size w w' := by
  have HB0 := hide (below_alloc4 w (.cells #[.int .i64 0, .int .i64 0] 31))
  have HR0 := hide (heap_alloc_new w (.cells #[.int .i64 0, .int .i64 0] 31))
  go_enter Tryz.func12, Tryz.ntmps12
  go_wp2_with fail
  exact bodyPost_ret (end_f9 rfl HR0.out rfl rfl) rfl ⟨rfl, HB0.out⟩
def CwP (w : World) (r : Nat × Nat) (e : Ending) (w' : World) : Prop := Below w.heap.size w w' ∧ ((r = (0, 0) ∧ e = .returned (.tuple #[])) ∨ (r.1 ≠ 0 ∧ e = gup r.1 r.2))
theorem checkWhole9_any (w : World) (v : Value) (b : List Nat) (hb : BSl w v b) (hbl : b.length ≤ 140737488351232) (d : Int) (hd : -9223372036854775808 ≤ d ∧ d ≤ 9223372036854775807) (J : Nat) (hJ : b.length + 1 ≤ J) : Calls Tryz.prog 13 #[v, .int .i64 d] w (CwP w (lwhole b d J)) := by
  have HBB := hide hb
  have HBL := hide hbl
  have HJ := hide hJ
  have HLW : Hid (lwhole b d J = if d < 0 ∨ 1024 < d then (90, 0) else match lskip b d.toNat J (d.toNat + 1) 0 0 with | .error e => e | .ok p => if p < b.length then (94, p) else (0, 0)) := rfl
  obtain ⟨LW, hLW⟩ : ∃ LW, LW = lwhole b d J := ⟨_, rfl⟩
  rw [← hLW] at HLW ⊢
  obtain ⟨⟨a, cap, rfl, _, _⟩, _, _⟩ := hb
  clear hLW hbl hJ
  by_cases hneg : d < 0
  · as_aux_lemma =>
    have HK : Hid (LW = (90, 0)) := by show _ = _; rw [HLW.out, if_pos (.inl hneg)]
    clear HLW
    go_enter Tryz.func13, Tryz.ntmps13
    go_wp2_with fail
    refine (giveUp_any _ 90 0).mono ?_
    rintro e w6 ⟨rfl, hw6⟩
    have hw6 := hw6.symm
    subst hw6
    go_wp2_with fail
    exact ⟨rfl, Below.refl _ _, .inr (by rw [HK.out]; exact ⟨by decide, rfl⟩)⟩
  · by_cases hbig : 1024 < d
    · as_aux_lemma =>
      have HK : Hid (LW = (90, 0)) := by show _ = _; rw [HLW.out, if_pos (.inr hbig)]
      clear HLW
      go_enter Tryz.func13, Tryz.ntmps13
      go_wp2_with fail
      refine (giveUp_any _ 90 0).mono ?_
      rintro e w6 ⟨rfl, hw6⟩
      have hw6 := hw6.symm
      subst hw6
      go_wp2_with fail
      exact ⟨rfl, Below.refl _ _, .inr (by rw [HK.out]; exact ⟨by decide, rfl⟩)⟩
    · obtain ⟨dp, rfl⟩ : ∃ dp : Nat, d = (dp : Int) := ⟨d.toNat, by omega⟩
      have HDP : Hid (dp ≤ 1024) := by show _ ≤ _; omega
      have g1 : ¬ (1024 : Int) < (dp : Int) := hbig
      have g2 : ¬ (dp : Int) > 1024 := by omega
      have HL1 : Hid (LW = match lskip b dp J (dp + 1) 0 0 with | .error e => e | .ok p => if p < b.length then (94, p) else (0, 0)) := by
        show _ = _
        rw [HLW.out, if_neg (by omega)]
        simp only [Int.toNat_natCast]
      have HRS := hide (skip_ris b dp J HJ.out (dp + 1) 0 0 (Nat.zero_le _) (by omega) (Nat.zero_le _))
      have hba := below_alloc4 w (.cells #[.slice a b.length cap, .int .i64 0, .int .i64 (dp : Nat), .int .i64 0] 58)
      have HB0 := hide hba
      have HRd : Hid (Rdr (w.alloc (.cells #[.slice a b.length cap, .int .i64 0, .int .i64 (dp : Nat), .int .i64 0] 58)) w.heap.size 58 #[.slice a b.length cap, .int .i64 0, .int .i64 (dp : Nat), .int .i64 0] (.slice a b.length cap) b dp 0 0) := ⟨heap_alloc_new w _, Nat.le_refl 4, rfl, rfl, fun wy hy => HBB.out.move (keep_below (hba.trans (hy.below hba.size (fun q e => by omega)))), HBL.out, Nat.zero_le _, Nat.zero_le _, HDP.out⟩
      clear HLW hba hneg hbig
      go_enter Tryz.func13, Tryz.ntmps13
      go_wp2_with fail
      generalize w.alloc (.cells #[.slice a b.length cap, .int .i64 0, .int .i64 (dp : Nat), .int .i64 0] 58) = w0 at *
      refine (skip9_any J (dp + 1) w0 w.heap.size _ _ _ b dp 0 0 HRd.out HJ.out (by omega)).mono ?_
      rintro e w2 ⟨hk2, ⟨q2, hx, rfl, hr2⟩ | ⟨c, q', hx, he'⟩⟩
      case inr =>
        as_aux_lemma =>
        have HC := hide (HRS.out.bad c q' hx).2
        have HL3 : Hid (LW = (c, q')) := by show _ = _; rw [HL1.out, hx]
        have HKE : Hid (Below w.heap.size w w2) := HB0.out.trans (hk2.below HB0.out.size (fun q e => by omega))
        unfold gup at he'
        subst he'
        clear hx hk2
        go_wp2_with fail
        exact ⟨rfl, HKE.out, .inr (by rw [HL3.out]; exact ⟨by show c ≠ 0; have := HC.out; omega, rfl⟩)⟩
      have HL3 : Hid (LW = if q2 < b.length then (94, q2) else (0, 0)) := by show _ = _; rw [HL1.out, hx]
      have HKE : Hid (Below w.heap.size w w2) := HB0.out.trans (hk2.below HB0.out.size (fun q e => by omega))
      have c1 : w2.cell? ⟨w.heap.size, 1, none⟩ = some (.int .i64 (q2 : Nat)) := blk_cell hr2.blk (rcl_1 hr2.z)
      clear hx hk2 hr2 HL1 HRS HRd HB0
      by_cases hlt : q2 < b.length
      · as_aux_lemma =>
        have g3 : (q2 : Int) < (b.length : Int) := by omega
        have HK : Hid (LW = (94, q2)) := by show _ = _; rw [HL3.out, if_pos hlt]
        clear HL3
        go_wp2_with fail
        refine (giveUp_any _ 94 q2).mono ?_
        rintro e w6 ⟨rfl, hw6⟩
        have hw6 := hw6.symm
        subst hw6
        go_wp2_with fail
        exact ⟨rfl, HKE.out, .inr (by rw [HK.out]; exact ⟨by show 94 ≠ 0; decide, rfl⟩)⟩
      · as_aux_lemma =>
        have g3 : ¬ (q2 : Int) < (b.length : Int) := by omega
        have HK : Hid (LW = (0, 0)) := by show _ = _; rw [HL3.out, if_neg hlt]
        clear HL3
        go_wp2_with fail
        first
          | (go_end0; exact ⟨HKE.out, .inl ⟨HK.out, rfl⟩⟩)
          | exact bodyPost_ret (results_none rfl _ _ _) rfl ⟨HKE.out, .inl ⟨HK.out, rfl⟩⟩
end
section
open Go.RowKit Go
theorem catch9_panicking (R c q : Nat) (z : Array Value) (older : List PanicEntry) (w : World) (hr : w.heap[R]? = some (.cells z 31 (0, 0))) (hz : z.size = 2) :
    CallsD Tryz.prog 11 #[.pointer (some ⟨R, 0, none⟩)] (.panicking ({ v := .iface 31 (.agg #[.int .i64 (c : Nat), .int .i64 (q : Nat)]), recovered := false } :: older)) w fun e u' w' =>
      e = .returned (.tuple #[]) ∧ u' = .panicking ({ v := .iface 31 (.agg #[.int .i64 (c : Nat), .int .i64 (q : Nat)]), recovered := true } :: older) ∧ w'.heap[R]? = some (.cells #[.int .i64 (c : Nat), .int .i64 (q : Nat)] 31 (0, 0)) ∧ Kp (fun x => x = R) w w' := by
  refine callsD_of_wpS Tryz.func11 rfl fun c₀ cs hu => ?_
  apply wpS_region
  simp [wpOpsS, go_sem, recoverD, hu, Tryz.ntmps11]
  refine (faultOf9_some w c q).mono ?_
  rintro e w1 ⟨rfl, hb⟩
  have hr1 := (hb.block _ (blk_lt hr)).trans hr
  have hst : Sem.run Tryz.prog (storeCells ⟨R, 0, none⟩ [.int .i64 (c : Nat), .int .i64 (q : Nat)]) w1 = .ok () (w1.setRow R #[.int .i64 (c : Nat), .int .i64 (q : Nat)]) := row_store (cs := #[.int .i64 (c : Nat), .int .i64 (q : Nat)]) hr1 (by rw [hz]; rfl) (by simp [Value.oneCell'])
  have hk : Kp (fun x => x = R) w (w1.setRow R #[.int .i64 (c : Nat), .int .i64 (q : Nat)]) := ((Kp.of_below (S := fun _ => False) hb).mono (fun _ _ e => e.elim)).trans (row_kp _ _ _) (fun _ _ e => e)
  have hrr := row_same (cs := #[.int .i64 (c : Nat), .int .i64 (q : Nat)]) hr1
  dsimp only
  rw [if_pos (show (#[.int .i64 (c : Nat), .int .i64 (q : Nat)] : Array Value).size = 2 from rfl), hst]
  simp [bodyPostS, results, Tryz.results11, go_sem]
  exact ⟨hrr, hk⟩
theorem catch9_idle (R : Nat) (z : Array Value) (w : World) (hr : w.heap[R]? = some (.cells z 31 (0, 0))) (hz : z.size = 2) :
    CallsD Tryz.prog 11 #[.pointer (some ⟨R, 0, none⟩)] .returning w fun e u' w' =>
      e = .returned (.tuple #[]) ∧ u' = .returning ∧ w'.heap[R]? = some (.cells #[.int .i64 0, .int .i64 0] 31 (0, 0)) ∧ Kp (fun x => x = R) w w' := by
  refine callsD_of_wpS Tryz.func11 rfl fun c₀ cs hu => ?_
  apply wpS_region
  simp [wpOpsS, go_sem, recoverD, hu, Tryz.ntmps11]
  refine (faultOf9_none w).mono ?_
  rintro e w1 ⟨rfl, hb⟩
  have hr1 := (hb.block _ (blk_lt hr)).trans hr
  have hst : Sem.run Tryz.prog (storeCells ⟨R, 0, none⟩ [.int .i64 0, .int .i64 0]) w1 = .ok () (w1.setRow R #[.int .i64 0, .int .i64 0]) := row_store (cs := #[.int .i64 0, .int .i64 0]) hr1 (by rw [hz]; rfl) (by simp [Value.oneCell'])
  have hk : Kp (fun x => x = R) w (w1.setRow R #[.int .i64 0, .int .i64 0]) := ((Kp.of_below (S := fun _ => False) hb).mono (fun _ _ e => e.elim)).trans (row_kp _ _ _) (fun _ _ e => e)
  have hrr := row_same (cs := #[.int .i64 0, .int .i64 0]) hr1
  dsimp only
  rw [if_pos (show (#[.int .i64 0, .int .i64 0] : Array Value).size = 2 from rfl), hst]
  simp [bodyPostS, results, Tryz.results11, go_sem]
  cases c₀
  simp_all
def flt9 (r : Nat × Nat) : Value := .agg #[.int .i64 (r.1 : Nat), .int .i64 (r.2 : Nat)]
theorem whole9_any (w : World) (v : Value) (b : List Nat) (hb : BSl w v b) (hbl : b.length ≤ 140737488351232) (d : Int) (hd : -9223372036854775808 ≤ d ∧ d ≤ 9223372036854775807) (J : Nat) (hJ : b.length + 1 ≤ J) : Calls Tryz.prog 6 #[v, .int .i64 d] w fun e w' => e = .returned (flt9 (lwhole b d J)) ∧ Below w.heap.size w w' := by
  have hmf : ∀ (fn : Fn) (first cap : Array Value) (w : World), (Instr.makeFunc fn first cap).run Tryz.prog w = .ok (.func fn first cap) w := fun _ _ _ _ => rfl
  have hba := below_alloc4 w (.cells #[.int .i64 0, .int .i64 0] 31)
  have HB0 := hide hba
  have HR0 := hide (heap_alloc_new w (.cells #[.int .i64 0, .int .i64 0] 31))
  have HCW := hide (fun w1 (h1 : BSl w1 v b) => checkWhole9_any w1 v b h1 hbl d hd J hJ)
  have HBB := hide hb
  obtain ⟨LW, hLW⟩ : ∃ LW, LW = lwhole b d J := ⟨_, rfl⟩
  rw [← hLW] at HCW ⊢
  clear hb hbl hd hJ hba hLW
  go_enter_defers Tryz.func6, Tryz.ntmps6
  go_wp2_with fail
  refine (HCW.out _ (HBB.out.move (keep_below HB0.out))).mono ?_
  generalize w.alloc (.cells #[.int .i64 0, .int .i64 0] 31) = w0 at *
  rintro e w1 ⟨hb1, ⟨hr, rfl⟩ | ⟨hr, he⟩⟩
  · have HR1 := hide ((hb1.block _ (blk_lt HR0.out)).trans HR0.out)
    have HB1 : Hid (Below w.heap.size w w1) := HB0.out.trans (hb1.mono HB0.out.size)
    have HK := hide hr
    clear hb1 hr
    have HI5 : Hid ((Tryz.prog.info? 31).map (·.size) = some (#[.int .i64 0, .int .i64 0] : Array Value).size) := infoFt
    have HA5 : Hid ((#[.int .i64 0, .int .i64 0] : Array Value).all (·.oneCell') = true) := by show _ = _; simp [Value.oneCell']
    go_wp2_with (refine wpList_storeRow rfl rfl w.heap.size #[.int .i64 0, .int .i64 0] #[.int .i64 0, .int .i64 0] 31 rfl rfl HR1.out HI5.out rfl HA5.out ?_)
    refine leaves_cons (f := 11) (args := #[.pointer (some ⟨w.heap.size, 0, none⟩)]) (by simp) (by simp [go_sem]) ?_
    refine (catch9_idle w.heap.size _ _ (row_same HR1.out) rfl).mono ?_
    rintro e u' w2 ⟨rfl, rfl, hr2, hk2⟩
    exact ⟨_, end_f9 rfl hr2 rfl rfl, by rw [HK.out]; rfl, HB1.out.trans (((row_kp _ _ _).trans hk2 (fun _ _ e => e)).below HB1.out.size (fun q e => by omega))⟩
  · unfold gup at he
    subst he
    have HR1 := hide ((hb1.block _ (blk_lt HR0.out)).trans HR0.out)
    have HB1 : Hid (Below w.heap.size w w1) := HB0.out.trans (hb1.mono HB0.out.size)
    clear hb1 hr
    go_wp2_with fail
    refine leaves_cons (f := 11) (args := #[.pointer (some ⟨w.heap.size, 0, none⟩)]) (by simp) (by simp [go_sem]) ?_
    refine (catch9_panicking w.heap.size LW.1 LW.2 _ [] _ HR1.out rfl).mono ?_
    rintro e u' w2 ⟨rfl, rfl, hr2, hk2⟩
    exact ⟨_, end_f9 rfl hr2 rfl rfl, rfl, HB1.out.trans (hk2.below HB1.out.size (fun q e => by omega))⟩
end
section
open Go.RowKit Go
def gfl (l : List (Array Value)) : List Value := l.flatMap (·.toList)
theorem gfl_app (a b : List (Array Value)) : gfl (a ++ b) = gfl a ++ gfl b := by simp [gfl]
theorem gfl_get {n : Nat} : ∀ {l : List (Array Value)}, (∀ c ∈ l, c.size = n) → ∀ (k : Nat) (c : Array Value) (j : Nat) (u : Value), l[k]? = some c → c[j]? = some u → (gfl l)[k * n + j]? = some u
  | [], _, k, c, j, u, hk, _ => by cases hk
  | x :: r, h, 0, c, j, u, hk, hj => by
    have e : gfl (x :: r) = x.toList ++ gfl r := by simp [gfl]
    have hx : x = c := by simpa using hk
    subst hx
    rw [e, Nat.zero_mul, Nat.zero_add, List.getElem?_append_left (by have := (Array.getElem?_eq_some_iff.1 hj).1; simpa using this)]
    simpa using hj
  | x :: r, h, k + 1, c, j, u, hk, hj => by
    have e : gfl (x :: r) = x.toList ++ gfl r := by simp [gfl]
    have h0 := h x (List.mem_cons_self ..)
    have ih := gfl_get (fun y hy => h y (List.mem_cons_of_mem _ hy)) k c j u (by simpa using hk) hj
    rw [e, List.getElem?_append_right (by rw [Array.length_toList, h0, Nat.succ_mul]; omega), Array.length_toList, h0, Nat.succ_mul, show k * n + n + j - n = k * n + j by omega]
    exact ih
theorem addr0 (g j : Nat) : (⟨g, 0, none⟩ : Addr).add j = ⟨g, j, none⟩ := by unfold Addr.add; split <;> simp_all
theorem info_ex {T : TypeId} {z : Value} {k by' : Nat} (h : (Tryz.prog.info? T).map (fun i => (i.zero, i.size, i.bytes)) = some (some z, k, by')) : ∃ i, Tryz.prog.info? T = some i ∧ i.zero = some z ∧ i.size = k ∧ i.bytes = by' := by
  cases hi : Tryz.prog.info? T with
  | none => rw [hi] at h; cases h
  | some i =>
    rw [hi] at h
    injection h with h
    injection h with h1 h2
    injection h2 with h2 h3
    exact ⟨i, rfl, h1, h2, h3⟩
theorem append_gB {ops : Array Oper} {rest : List Oper} {o : Oper} {a : Act} {Q : Exit → Act → World → Prop} {w : World} {S T : TypeId} {z : Value} {k by' : Nat} (hI : (Tryz.prog.info? T).map (fun i => (i.zero, i.size, i.bytes)) = some (some z, k, by')) (hS : Tryz.prog.underlying S = some (.slice T)) (hzs : z.cells.size = k) (hk : 0 < k) (hgd : o.guard = none) {s x : Operand}
    (ho : o.op = .call { callee := .builtin .append, args := #[s, x], argTypes := #[S, S] }) {B : Nat} {v : Value} {L : List (Array Value)} (hs : a.eval s = v) (hown : w.ownsRow B T k v L.length (gfl L))
    {g : Nat} {c : Array Value} (hx : a.eval x = .slice (some ⟨g, 0, none⟩) 1 1) (hg : w.heap[g]? = some (.cells c T (0, 0))) (hc : c.size = k) (h1 : ∀ u ∈ c.toList, u.oneCell' = true) (hlen : L.length + 1 ≤ 140737488355328) (hb : (L.length + 1) * by' ≤ 140737488355328) (hbase : B ≤ w.heap.size)
    (h : ∀ v' w', w'.ownsRow B T k v' (L.length + 1) (gfl (L ++ [c])) → w.grownBy w' v.ownBlock → (v'.ownBlock = v.ownBlock ∨ v'.ownBlock = some w.heap.size) → wpList Tryz.prog ops Q rest (a.put o.dst v') w') : wpList Tryz.prog ops Q (o :: rest) a w := by
  obtain ⟨i, hi, hz0, hz1, hz2⟩ := info_ex hI
  refine wpList_append_own_at w hgd s x S ho B T i z k by' hS hi hz0 hz1 hz2 hzs hk v L.length (gfl L) hs hown ⟨g, 0, none⟩ 1 1 c.toList hx (by simp [hc]) (fun j u hu => ?_) h1 (by unfold maxLen; omega) hb hbase fun v' w' h1 h2 _ h4 => h v' w' (by rw [gfl_app]; simpa [gfl] using h1) h2 h4
  rw [addr0]
  exact blk_cell hg (by simpa using hu)
theorem append_g {ops : Array Oper} {rest : List Oper} {o : Oper} {a : Act} {Q : Exit → Act → World → Prop} {w : World} {S T : TypeId} {z : Value} {k by' : Nat} (hI : (Tryz.prog.info? T).map (fun i => (i.zero, i.size, i.bytes)) = some (some z, k, by')) (hS : Tryz.prog.underlying S = some (.slice T)) (hzs : z.cells.size = k) (hk : 0 < k) (hby : by' ≤ 1000) (hgd : o.guard = none) {s x : Operand}
    (ho : o.op = .call { callee := .builtin .append, args := #[s, x], argTypes := #[S, S] }) {B : Nat} {v : Value} {L : List (Array Value)} (hs : a.eval s = v) (hown : w.ownsRow B T k v L.length (gfl L))
    {g : Nat} {c : Array Value} (hx : a.eval x = .slice (some ⟨g, 0, none⟩) 1 1) (hg : w.heap[g]? = some (.cells c T (0, 0))) (hc : c.size = k) (h1 : ∀ u ∈ c.toList, u.oneCell' = true) (hlen : L.length ≤ 1000000) (hbase : B ≤ w.heap.size)
    (h : ∀ v' w', w'.ownsRow B T k v' (L.length + 1) (gfl (L ++ [c])) → w.grownBy w' v.ownBlock → (v'.ownBlock = v.ownBlock ∨ v'.ownBlock = some w.heap.size) → wpList Tryz.prog ops Q rest (a.put o.dst v') w') : wpList Tryz.prog ops Q (o :: rest) a w := by
  have hb : (L.length + 1) * by' ≤ 140737488355328 := by
    have : (L.length + 1) * by' ≤ 1000001 * 1000 := Nat.mul_le_mul (by omega) hby
    omega
  exact append_gB hI hS hzs hk hgd ho hs hown hx hg hc h1 (by omega) hb hbase h
theorem own_formG {w : World} {B : Nat} {e : TypeId} {k : Nat} {v : Value} {n : Nat} {xs : List Value} (h : w.ownsRow B e k v n xs) : ∃ a cap, v = .slice a n cap ∧ (0 < n → ∃ g, a = some ⟨g, 0, none⟩) := by
  rcases h.2 with ⟨rfl, h0⟩ | ⟨g, cap, cur, rfl, _⟩
  · exact ⟨none, 0, by rw [h0], fun hp => by omega⟩
  · exact ⟨_, cap, rfl, fun _ => ⟨g, rfl⟩⟩
theorem own_elt {w : World} {B g n m cap k i : Nat} {T : TypeId} {L : List (Array Value)} {c : Array Value} (h : w.ownsRow B T k (.slice (some ⟨g, 0, none⟩) m cap) n (gfl L)) (hl : ∀ c ∈ L, c.size = k) (hi : L[i]? = some c) : ∀ j u, c[j]? = some u → w.cell? ⟨g, 0 + i * k + j, none⟩ = some u := fun j u hu => by
  have := h.cells (g := g) rfl (i * k + j) u (gfl_get hl i c j u hi hu)
  rw [addr0] at this
  rw [Nat.zero_add]
  exact this
theorem own_gsl {α : Type} {k : Nat} {P : World → α → Array Value → Prop} {w : World} {B : Nat} {T : TypeId} {v : Value} {L : List (Array Value)} {xs : List α} (h : w.ownsRow B T k v L.length (gfl L)) (hl : ∀ c ∈ L, c.size = k) (hn : L.length = xs.length) (hm : xs.length ≤ 140737488351232) (hp : ∀ (i : Nat) (x : α) (c : Array Value), xs[i]? = some x → L[i]? = some c → P w x c) : GSl k P w v xs := by
  rw [hn] at h
  refine ⟨?_, hm⟩
  rcases id h.2 with ⟨rfl, h0⟩ | ⟨g, cap, cur, rfl, h1, h2, h3, _⟩
  · have : xs = [] := List.length_eq_zero_iff.1 h0
    subst this
    exact ⟨none, 0, rfl, ⟨Nat.le_refl _, fun _ => rfl⟩, .inl rfl⟩
  · refine ⟨_, cap, rfl, ⟨?_, fun e => by cases e⟩, .inr ⟨g, 0, rfl, fun i x hi => ?_⟩⟩
    · omega
    · obtain ⟨hlt, _⟩ := List.getElem?_eq_some_iff.1 hi
      have hiL : L[i]? = some (L[i]'(by omega)) := List.getElem?_eq_getElem (by omega)
      exact ⟨_, hp i x _ hi hiL, own_elt h hl hiL⟩
end
section
open Go.RowKit Go
theorem kp_grown9 {w w' : World} {row : Option Nat} (h : w.grownBy w' row) : Kp (fun q => row = some q) w w' := ⟨h.os, h.tape, h.output, h.size, fun k hk hne => h.block k hk (fun e => hne e.symm)⟩
def ntc (x : Nat × Nat) : Array Value := #[.int .i64 (x.1 : Nat), .int .i64 (x.2 : Nat)]
def itc (v : Value) (dp : Nat) (vn : Value) : Array Value := #[v, .int .i64 0, .int .i64 (dp : Nat), .int .i64 0, vn]
structure Itp (w : World) (N0 g : Nat) (v : Value) (b : List Nat) (dp p op : Nat) (vn : Value) (ns : List (Nat × Nat)) : Prop where
  r : Rdr w g 60 (itc v dp vn) v b dp p op
  o : w.ownsRow N0 55 2 vn ns.length (gfl (ns.map ntc))
  g : N0 ≤ g
  bs : ∀ wy, Kp (fun q => N0 ≤ q) w wy → BSl wy v b
theorem infoNt3 : (Tryz.prog.info? 55).map (fun i => (i.zero, i.size, i.bytes)) = some (some (.agg #[.int .i64 0, .int .i64 0]), 2, 16) := by kernel_rfl
theorem itc_notes (v : Value) (dp : Nat) (vn vn' : Value) (p op : Nat) : (rcl (itc v dp vn) p op).setIfInBounds 4 vn' = rcl (itc v dp vn') p op := rfl
theorem Itp.ne {w : World} {N0 g : Nat} {v : Value} {b : List Nat} {dp p op : Nat} {vn : Value} {ns : List (Nat × Nat)} (h : Itp w N0 g v b dp p op vn ns) : ∀ q, vn.ownBlock = some q → q ≠ g := fun q e eq => by
  rcases id h.o.2 with ⟨rfl, _⟩ | ⟨k, cap, cur, rfl, _, hg, _⟩
  · cases e
  · have e2 : k = g := (Option.some.inj e).trans eq
    rw [e2, h.r.blk] at hg
    injection hg with hg
    injection hg with _ h2 _
    exact absurd h2 (by decide)
theorem note9_any {w : World} {N0 g : Nat} {v : Value} {b : List Nat} {dp p op : Nat} {vn : Value} {ns : List (Nat × Nat)} (h : Itp w N0 g v b dp p op vn ns) (hn : ns.length ≤ 1000000) (x y : Nat) : Calls Tryz.prog 39 #[.pointer (some ⟨g, 0, none⟩), .int .i64 (x : Nat), .int .i64 (y : Nat)] w fun e w' => e = .returned (.tuple #[]) ∧ Hid (∃ vn', Itp w' N0 g v b dp p op vn' (ns ++ [(x, y)]) ∧ Kp (fun q => q = g ∨ vn.ownBlock = some q) w w' ∧ (vn'.ownBlock = vn.ownBlock ∨ ∀ q, vn'.ownBlock = some q → w.heap.size ≤ q)) := by
  have HH := hide h
  have c4 : w.cell? ⟨g, 4, none⟩ = some vn := blk_cell (j := 4) h.r.blk rfl
  have HN := hide hn
  have HGL : Hid (g < w.heap.size) := blk_lt h.r.blk
  have HNE := hide h.ne
  obtain ⟨a0, cap0, hvn, _⟩ := own_formG h.o
  subst hvn
  have hba := below_alloc4 w (.cells #[.int .i64 (x : Nat), .int .i64 (y : Nat)] 55)
  have HO1 : Hid ((w.alloc (.cells #[.int .i64 (x : Nat), .int .i64 (y : Nat)] 55)).ownsRow N0 55 2 (.slice a0 ns.length cap0) (ns.map ntc).length (gfl (ns.map ntc))) := by show World.ownsRow _ _ _ _ _ _ _; rw [List.length_map]; exact (Kp.of_below (S := fun _ => False) hba).owns h.o (fun _ _ e => e)
  have HG1 := hide (heap_alloc_new w (.cells #[.int .i64 (x : Nat), .int .i64 (y : Nat)] 55))
  have HB1 := hide hba
  have HON : Hid (∀ u ∈ (#[.int .i64 (x : Nat), .int .i64 (y : Nat)] : Array Value).toList, u.oneCell' = true) := fun u hu => by simp at hu; rcases hu with rfl | rfl <;> rfl
  have HLE : Hid ((ns.map ntc).length ≤ 1000000) := by show _ ≤ _; rw [List.length_map]; exact hn
  have HBA : Hid (N0 ≤ (w.alloc (.cells #[.int .i64 (x : Nat), .int .i64 (y : Nat)] 55)).heap.size) := by have h1 := h.g; have h2 := HGL.out; have h3 := hba.size; show _ ≤ _; omega
  clear h hn hba
  go_enter Tryz.func39, Tryz.ntmps39
  have HAP : Hid (∀ (ops : Array Oper) (rest : List Oper) (o : Oper) (ac : Act) (Q : Exit → Act → World → Prop) (s y' : Operand), o.guard = none → o.op = .call { callee := .builtin .append, args := #[s, y'], argTypes := #[42, 42] } → ac.eval s = .slice a0 ns.length cap0 → ac.eval y' = .slice (some ⟨w.heap.size, 0, none⟩) 1 1 → (∀ a' n' c' w', w'.ownsRow N0 55 2 (.slice a' n' c') (ns ++ [(x, y)]).length (gfl ((ns ++ [(x, y)]).map ntc)) → Kp (fun q => (Value.slice a0 ns.length cap0).ownBlock = some q) w w' → ((Value.slice a' n' c').ownBlock = (Value.slice a0 ns.length cap0).ownBlock ∨ ∀ q, (Value.slice a' n' c').ownBlock = some q → w.heap.size ≤ q) → wpList Tryz.prog ops Q rest (ac.put o.dst (.slice a' n' c')) w') → wpList Tryz.prog ops Q (o :: rest) ac (w.alloc (.cells #[.int .i64 (x : Nat), .int .i64 (y : Nat)] 55))) := fun ops rest o ac Q s y' h1 h2 h3 h4 h5 => by
    refine append_g infoNt3 Tryz.underlying42 rfl (by decide) (by decide) h1 h2 h3 HO1.out h4 HG1.out rfl HON.out HLE.out HBA.out (fun v' w' h6 h7 h8 => ?_)
    obtain ⟨a', c', hv', _⟩ := own_formG h6
    subst hv'
    refine h5 _ _ _ w' ?_ (((Kp.of_below (S := fun _ => False) HB1.out).mono (fun _ _ e => e.elim)).trans (kp_grown9 h7) (fun _ _ e => e)) (h8.imp id (fun e q eq => ?_))
    · rw [List.length_append, List.length_singleton, List.map_append]
      rw [List.length_map] at h6 ⊢
      exact h6
    · rw [e] at eq
      have := Option.some.inj eq
      have := HB1.out.size
      omega
  go_wp2_with (refine HAP.out _ _ _ _ _ _ _ rfl rfl rfl rfl ?_; intro a' n' c' w2 h6 h7 h8; have hgb := (h7.block g HGL.out (fun e => HNE.out g e rfl)).trans HH.out.r.blk; have c4b : w2.cell? ⟨g, 4, none⟩ = some (.slice a0 ns.length cap0) := blk_cell (j := 4) hgb rfl; have f4 : w2.frozen? ⟨g, 4, none⟩ = false := blk_frozen 4 hgb)
  go_end0
  refine ⟨rfl, .slice a' n' c', ?_, ?_, h8⟩
  · have hks : Kp (fun q => q = g) w2 (w2.setCell ⟨g, 4, none⟩ (.slice a' n' c')) := (Kp.refl (fun q => q = g) w2).setCell _ _ (fun _ => rfl)
    have hgN := HH.out.g
    have hall : Kp (fun q => N0 ≤ q) w (w2.setCell ⟨g, 4, none⟩ (.slice a' n' c')) := (h7.mono (fun q _ e => (HH.out.o.lt q e).1)).trans hks (fun q _ e => by omega)
    have hblk : (w2.setCell ⟨g, 4, none⟩ (.slice a' n' c')).heap[g]? = some (.cells (rcl (itc v dp (.slice a' n' c')) p op) 60 (0, 0)) := by
      rw [← itc_notes v dp (.slice a0 ns.length cap0) (.slice a' n' c') p op]
      exact blk_set 4 _ hgb
    have hne2 : ∀ q, (Value.slice a' n' c').ownBlock = some q → ¬ q = g := fun q e eq => by
      rcases h8 with h | h
      · exact HNE.out q (h ▸ e) eq
      · have := h q e
        have := HGL.out
        omega
    exact ⟨⟨hblk, HH.out.r.z, rfl, rfl, fun wy hy => HH.out.bs wy (hall.trans hy (fun q _ e => by omega)), HH.out.r.hb, HH.out.r.hp, HH.out.r.ho⟩, hks.owns h6 hne2, hgN, fun wy hy => HH.out.bs wy (hall.trans hy (fun _ _ e => e))⟩
  · exact (h7.mono (fun _ _ e => .inr e)).trans ((Kp.refl (fun q => q = g) w2).setCell _ _ (fun _ => rfl)) (fun _ _ e => .inl e)
end
section
open Go.RowKit Go
structure Itg (w w' : World) (N0 g : Nat) (v : Value) (b : List Nat) (dp p op : Nat) (vn vn' : Value) (ns : List (Nat × Nat)) : Prop where
  i : Itp w' N0 g v b dp p op vn' ns
  k : Kp (fun q => q = g ∨ vn.ownBlock = some q) w w'
  n : vn'.ownBlock = vn.ownBlock ∨ ∀ q, vn'.ownBlock = some q → w.heap.size ≤ q
theorem Itg.trans {w w1 w2 : World} {N0 g : Nat} {v : Value} {b : List Nat} {dp p op p' op' : Nat} {vn vn1 vn2 : Value} {ns ns' : List (Nat × Nat)} (h : Itg w w1 N0 g v b dp p op vn vn1 ns) (h2 : Itg w1 w2 N0 g v b dp p' op' vn1 vn2 ns') : Itg w w2 N0 g v b dp p' op' vn vn2 ns' := by
  have hs := h.k.size
  refine ⟨h2.i, h.k.trans h2.k (fun q hq e => ?_), ?_⟩
  · rcases e with e | e
    · exact .inl e
    · rcases h.n with hn | hn
      · exact .inr (hn ▸ e)
      · have := hn q e
        omega
  · rcases h2.n with h3 | h3
    · rcases h.n with hn | hn
      · exact .inl (h3.trans hn)
      · exact .inr (fun q e => hn q (h3 ▸ e))
    · exact .inr (fun q e => by have := h3 q e; omega)
theorem Itp.next {w w' : World} {N0 g : Nat} {v : Value} {b : List Nat} {dp p op : Nat} {vn : Value} {ns : List (Nat × Nat)} (h : Itp w N0 g v b dp p op vn ns) (hb : Below w.heap.size w w') : Itg w w' N0 g v b dp p op vn vn ns := by
  have hk := Kp.of_below (S := fun _ => False) hb
  exact ⟨⟨h.r.next hb, hk.owns h.o (fun _ _ e => e), h.g, fun wy hy => h.bs wy ((hk.mono (fun _ _ e => e.elim)).trans hy (fun _ _ e => e))⟩, hk.mono (fun _ _ e => e.elim), .inl rfl⟩
theorem note9_itg {w : World} {N0 g : Nat} {v : Value} {b : List Nat} {dp p op : Nat} {vn : Value} {ns : List (Nat × Nat)} (h : Itp w N0 g v b dp p op vn ns) (hn : ns.length ≤ 1000000) (x y : Nat) : Calls Tryz.prog 39 #[.pointer (some ⟨g, 0, none⟩), .int .i64 (x : Nat), .int .i64 (y : Nat)] w fun e w' => e = .returned (.tuple #[]) ∧ Hid (∃ vn', Itg w w' N0 g v b dp p op vn vn' (ns ++ [(x, y)])) := by
  refine (note9_any h hn x y).mono ?_
  rintro e w' ⟨rfl, hP⟩
  obtain ⟨vn', h1, h2, h3⟩ := hP.out
  exact ⟨rfl, vn', h1, h2, h3⟩
structure Ntd (w wx : World) (N0 g : Nat) (v : Value) (b : List Nat) (dp p op : Nat) (vn vx : Value) (ns : List (Nat × Nat)) (hc : Array Value) : Prop where
  i : Itg w wx N0 g v b dp p op vn vx ns
  h : wx.heap[w.heap.size]? = some (.cells hc 66 (0, 0))
  a : wx.heap[w.heap.size + 1]? = some (.cells #[.int .i64 0, .int .i64 0, .int .u64 0, .int .i64 0, .bool false] 66 (0, 0))
  n : ∀ q, vx.ownBlock = some q → q ≠ w.heap.size ∧ q ≠ w.heap.size + 1
  g : g < w.heap.size
theorem Ntd.on {w wx wy : World} {N0 g : Nat} {v : Value} {b : List Nat} {dp p op : Nat} {vn vx vy : Value} {ns ns' : List (Nat × Nat)} {hc : Array Value} (h : Ntd w wx N0 g v b dp p op vn vx ns hc) (h2 : Itg wx wy N0 g v b dp p op vx vy ns') : Ntd w wy N0 g v b dp p op vn vy ns' hc := by
  have hg := h.g
  have hl := blk_lt h.a
  refine ⟨h.i.trans h2, (h2.k.block _ (blk_lt h.h) (fun e => ?_)).trans h.h, (h2.k.block _ hl (fun e => ?_)).trans h.a, fun q e => ?_, hg⟩
  · rcases e with e | e
    · omega
    · exact (h.n _ e).1 rfl
  · rcases e with e | e
    · omega
    · exact (h.n _ e).2 rfl
  · rcases h2.n with h3 | h3
    · exact h.n q (h3 ▸ e)
    · have := h3 q e
      omega
theorem Ntd.fin {w wx : World} {N0 g : Nat} {v : Value} {b : List Nat} {dp p op : Nat} {vn vx : Value} {ns : List (Nat × Nat)} {hc : Array Value} (h : Ntd w wx N0 g v b dp p op vn vx ns hc) (c : Array Value) : Itg w (wx.setRow (w.heap.size + 1) c) N0 g v b dp p op vn vx ns := by
  have hkr := row_kp wx (w.heap.size + 1) c
  have hg := h.g
  have hN := h.i.i.g
  have hks : Kp (fun q => N0 ≤ q) wx (wx.setRow (w.heap.size + 1) c) := hkr.mono (fun q _ e => by omega)
  refine ⟨⟨⟨(hkr.block _ (blk_lt h.i.i.r.blk) (fun e => by omega)).trans h.i.i.r.blk, h.i.i.r.z, h.i.i.r.c0, h.i.i.r.c2, fun wy hy => h.i.i.bs wy (hks.trans hy (fun q _ e => by omega)), h.i.i.r.hb, h.i.i.r.hp, h.i.i.r.ho⟩, hkr.owns h.i.i.o (fun q e => (h.n q e).2), hN, fun wy hy => h.i.i.bs wy (hks.trans hy (fun _ _ e => e))⟩, h.i.k.trans hkr (fun q hq e => by omega), h.i.n⟩
def lnot (p : Nat) (h : HR) (ns : List (Nat × Nat)) : List (Nat × Nat) := ns ++ ((if h.s = true then [] else [(p - h.u, 1)]) ++ (if h.i = 31 then [(p - h.u, 2)] else []))
theorem noted9_any {w : World} {N0 g : Nat} {v : Value} {b : List Nat} {dp p op : Nat} {vn : Value} {ns : List (Nat × Nat)} (hI : Itp w N0 g v b dp p op vn ns) (hn : ns.length ≤ 999990) (h : HR) (hu : h.u ≤ p) : Calls Tryz.prog 26 #[.pointer (some ⟨g, 0, none⟩), h.val] w fun e w' => e = .returned h.val ∧ Hid (∃ vn', Itg w w' N0 g v b dp p op vn vn' (lnot p h ns)) := by
  obtain ⟨NS, hNS⟩ : ∃ NS, NS = lnot p h ns := ⟨_, rfl⟩
  rw [← hNS]
  obtain ⟨hm, hi, hn', hu', hs, he⟩ := h
  have HNS : Hid (NS = ns ++ ((if hs = true then [] else [(p - hu', 1)]) ++ (if hi = 31 then [(p - hu', 2)] else []))) := hNS
  have HUP : Hid (hu' ≤ p) := hu
  have HNN := hide hn
  have hba := below_alloc4 w (.cells #[.int .i64 (hm : Nat), .int .i64 (hi : Nat), .int .u64 (hn' : Nat), .int .i64 (hu' : Nat), .bool hs] 66)
  have hbb := below_alloc4 (w.alloc (.cells #[.int .i64 (hm : Nat), .int .i64 (hi : Nat), .int .u64 (hn' : Nat), .int .i64 (hu' : Nat), .bool hs] 66)) (.cells #[.int .i64 0, .int .i64 0, .int .u64 0, .int .i64 0, .bool false] 66)
  have hbz : (w.alloc (.cells #[.int .i64 (hm : Nat), .int .i64 (hi : Nat), .int .u64 (hn' : Nat), .int .i64 (hu' : Nat), .bool hs] 66)).heap.size = w.heap.size + 1 := by simp
  have HB2 : Hid (Below w.heap.size w ((w.alloc (.cells #[.int .i64 (hm : Nat), .int .i64 (hi : Nat), .int .u64 (hn' : Nat), .int .i64 (hu' : Nat), .bool hs] 66)).alloc (.cells #[.int .i64 0, .int .i64 0, .int .u64 0, .int .i64 0, .bool false] 66))) := hba.trans (hbb.mono hba.size)
  have HIT := hide (hI.next HB2.out)
  have hg1 := heap_alloc_new w (.cells #[.int .i64 (hm : Nat), .int .i64 (hi : Nat), .int .u64 (hn' : Nat), .int .i64 (hu' : Nat), .bool hs] 66)
  have HHD := hide ((hbb.block _ (blk_lt hg1)).trans hg1)
  have hg2 := heap_alloc_new (w.alloc (.cells #[.int .i64 (hm : Nat), .int .i64 (hi : Nat), .int .u64 (hn' : Nat), .int .i64 (hu' : Nat), .bool hs] 66)) (.cells #[.int .i64 0, .int .i64 0, .int .u64 0, .int .i64 0, .bool false] 66)
  rw [hbz] at hg2
  have HRS := hide hg2
  have HBL := hide hI.r.hb
  have HPB := hide hI.r.hp
  have HGL : Hid (g < w.heap.size) := blk_lt hI.r.blk
  have HNE := hide hI.ne
  have HOL : Hid (∀ q, vn.ownBlock = some q → q < w.heap.size) := fun q e => (hI.o.lt q e).2
  simp only [HR.val]
  clear hI hn hu hNS hba hbb hbz hg1 hg2
  go_enter Tryz.func26, Tryz.ntmps26
  go_upto_region 1 with fail
  generalize (w.alloc (.cells #[.int .i64 (hm : Nat), .int .i64 (hi : Nat), .int .u64 (hn' : Nat), .int .i64 (hu' : Nat), .bool hs] 66)).alloc (.cells #[.int .i64 0, .int .i64 0, .int .u64 0, .int .i64 0, .bool false] 66) = w0 at *
  have HN0 : Hid (Ntd w w0 N0 g v b dp p op vn vn ns #[.int .i64 (hm : Nat), .int .i64 (hi : Nat), .int .u64 (hn' : Nat), .int .i64 (hu' : Nat), .bool hs]) := ⟨HIT.out, HHD.out, HRS.out, fun q e => by have := HOL.out q e; omega, HGL.out⟩
  clear HIT HHD HRS HNE HOL
  obtain ⟨m2, hm2⟩ : ∃ m2, m2 = p - hu' := ⟨_, rfl⟩
  have k3 : (p : Int) - (hu' : Int) = (m2 : Int) := by have := HUP.out; omega
  have k4 : wrap64 (m2 : Int) = (m2 : Int) := by have h1 := HBL.out; have h2 := HPB.out; unfold wrap64; omega
  have k5 : IntKind.i64.wrap (m2 : Int) = (m2 : Int) := by rw [IntKind.wrap_i64]; have h1 := HBL.out; have h2 := HPB.out; omega
  rw [← hm2] at HNS
  clear hm2
  have x1 : ∀ t' : Ext w0, t'.w'.cell? ⟨g, 1, none⟩ = some (.int .i64 (p : Nat)) := fun t' => keep_below t'.h _ _ (blk_cell HN0.out.i.i.r.blk (rcl_1 HN0.out.i.i.r.z))
  have x3 : ∀ t' : Ext w0, t'.w'.cell? ⟨w.heap.size, 3, none⟩ = some (.int .i64 (hu' : Nat)) := fun t' => keep_below t'.h _ _ (blk_cell (j := 3) HN0.out.h rfl)
  refine region_ext (by kernel_rfl) (by kernel_rfl) ?_
  with_reducible refine wpQuiet_step (fun K hK => ?_)
  go_simp
  with_reducible refine hK _ ?_
  clear hK K
  with_reducible refine wpQuiet_step (fun K hK => ?_)
  go_simp
  with_reducible refine hK _ ?_
  clear hK K
  with_reducible refine wpQuiet_step (fun K hK => ?_)
  go_simp
  with_reducible refine hK _ ?_
  clear hK K
  with_reducible refine wpQuiet_step (fun K hK => ?_)
  go_simp
  with_reducible refine hK _ ?_
  clear hK K
  with_reducible refine wpQuiet_step (fun K hK => ?_)
  go_simp
  with_reducible refine hK _ ?_
  clear hK K
  with_reducible refine wpQuiet_step (fun K hK => ?_)
  go_simp
  with_reducible refine hK _ ?_
  clear hK K
  with_reducible refine wpQuiet_step (fun K hK => ?_)
  go_simp
  with_reducible refine hK _ ?_
  clear hK K
  with_reducible refine wpQuiet_step (fun K hK => ?_)
  go_simp
  with_reducible refine hK _ ?_
  clear hK K
  with_reducible refine wpQuiet_step (fun K hK => ?_)
  go_simp
  with_reducible refine hK _ ?_
  clear hK K
  refine wpQuiet_nil ?_
  rintro wx ⟨t2, rfl⟩
  have HN1 := hide (HN0.out.on (HN0.out.i.i.next t2.h))
  clear x1 x3 HN0
  go_upto_region 2 with fail
  generalize t2.w' = w1 at *
  have d4 : w1.cell? ⟨w.heap.size, 4, none⟩ = some (.bool hs) := blk_cell (j := 4) HN1.out.h rfl
  have d1 : w1.cell? ⟨w.heap.size, 1, none⟩ = some (.int .i64 (hi : Nat)) := blk_cell (j := 1) HN1.out.h rfl
  have HI := hide infoHd
  have HAG : Hid (∀ w, (isAgg 66).run Tryz.prog w = .ok true w) := aggHd
  by_cases h31 : hi = 31
  · have g1 : ((hi : Int) == 31) = true := beq_iff_eq.2 (by omega)
    have H31 := hide h31
    clear h31
    cases hs with
    | true =>
      as_aux_lemma =>
      have HNO := hide (note9_itg HN1.out.i.i (by have := HNN.out; omega) m2 2)
      go_wp2_with fail
      refine HNO.out.mono ?_
      rintro e w2 ⟨rfl, hP⟩
      obtain ⟨vx2, hx2⟩ := hP.out
      have HN2 := hide (HN1.out.on hx2)
      have d12 : w2.cell? ⟨w.heap.size, 1, none⟩ = some (.int .i64 (hi : Nat)) := blk_cell (j := 1) HN2.out.h rfl
      clear hP HNO hx2
      have HCA : Hid (∀ j x, (#[.int .i64 (hm : Nat), .int .i64 (hi : Nat), .int .u64 (hn' : Nat), .int .i64 (hu' : Nat), .bool true] : Array Value)[j]? = some x → w2.cell? ⟨w.heap.size, 0 + j, none⟩ = some x) := fun j x hj => by rw [Nat.zero_add]; exact blk_cell HN2.out.h hj
      have HI5 : Hid ((Tryz.prog.info? 66).map (·.size) = some (#[.int .i64 (hm : Nat), .int .i64 (hi : Nat), .int .u64 (hn' : Nat), .int .i64 (hu' : Nat), .bool true] : Array Value).size) := infoHd
      have HA5 : Hid ((#[.int .i64 (hm : Nat), .int .i64 (hi : Nat), .int .u64 (hn' : Nat), .int .i64 (hu' : Nat), .bool true] : Array Value).all (·.oneCell') = true) := by show _ = _; simp [Value.oneCell']
      have HAA := hide HN2.out.a
      have HE : Hid (NS = ns ++ [(m2, 2)]) := by show _ = _; rw [HNS.out]; simp [H31.out]
      have HEND := hide (HN2.out.fin #[.int .i64 (hm : Nat), .int .i64 (hi : Nat), .int .u64 (hn' : Nat), .int .i64 (hu' : Nat), .bool true])
      clear HNS
      go_wp2_with (first
        | (refine wpList_aggAt rfl rfl HI.out HAG.out w.heap.size 0 #[.int .i64 (hm : Nat), .int .i64 (hi : Nat), .int .u64 (hn' : Nat), .int .i64 (hu' : Nat), .bool true] rfl rfl HCA.out ?_)
        | (refine wpList_storeRow rfl rfl (w.heap.size + 1) #[.int .i64 0, .int .i64 0, .int .u64 0, .int .i64 0, .bool false] #[.int .i64 (hm : Nat), .int .i64 (hi : Nat), .int .u64 (hn' : Nat), .int .i64 (hu' : Nat), .bool true] 66 rfl rfl HAA.out HI5.out rfl HA5.out ?_))
      exact bodyPost_ret (end_h9 rfl (row_same HAA.out) rfl rfl) rfl ⟨rfl, _, by rw [HE.out]; exact HEND.out⟩
    | false =>
      as_aux_lemma =>
      have HNO := hide (note9_itg HN1.out.i.i (by have := HNN.out; omega) m2 1)
      go_wp2_with fail
      refine HNO.out.mono ?_
      rintro e w2 ⟨rfl, hP⟩
      obtain ⟨vx1, hx1⟩ := hP.out
      have HN2 := hide (HN1.out.on hx1)
      have d11 : w2.cell? ⟨w.heap.size, 1, none⟩ = some (.int .i64 (hi : Nat)) := blk_cell (j := 1) HN2.out.h rfl
      clear hP HNO hx1
      have HNO := hide (note9_itg HN2.out.i.i (by rw [List.length_append, List.length_singleton]; have := HNN.out; omega) m2 2)
      go_wp2_with fail
      refine HNO.out.mono ?_
      rintro e w3 ⟨rfl, hP⟩
      obtain ⟨vx2, hx2⟩ := hP.out
      have HN3 := hide (HN2.out.on hx2)
      have d12 : w3.cell? ⟨w.heap.size, 1, none⟩ = some (.int .i64 (hi : Nat)) := blk_cell (j := 1) HN3.out.h rfl
      clear hP HNO hx2
      have HCA : Hid (∀ j x, (#[.int .i64 (hm : Nat), .int .i64 (hi : Nat), .int .u64 (hn' : Nat), .int .i64 (hu' : Nat), .bool false] : Array Value)[j]? = some x → w3.cell? ⟨w.heap.size, 0 + j, none⟩ = some x) := fun j x hj => by rw [Nat.zero_add]; exact blk_cell HN3.out.h hj
      have HI5 : Hid ((Tryz.prog.info? 66).map (·.size) = some (#[.int .i64 (hm : Nat), .int .i64 (hi : Nat), .int .u64 (hn' : Nat), .int .i64 (hu' : Nat), .bool false] : Array Value).size) := infoHd
      have HA5 : Hid ((#[.int .i64 (hm : Nat), .int .i64 (hi : Nat), .int .u64 (hn' : Nat), .int .i64 (hu' : Nat), .bool false] : Array Value).all (·.oneCell') = true) := by show _ = _; simp [Value.oneCell']
      have HAA := hide HN3.out.a
      have HE : Hid (NS = ns ++ [(m2, 1)] ++ [(m2, 2)]) := by show _ = _; rw [HNS.out]; simp [H31.out]
      have HEND := hide (HN3.out.fin #[.int .i64 (hm : Nat), .int .i64 (hi : Nat), .int .u64 (hn' : Nat), .int .i64 (hu' : Nat), .bool false])
      clear HNS
      go_wp2_with (first
        | (refine wpList_aggAt rfl rfl HI.out HAG.out w.heap.size 0 #[.int .i64 (hm : Nat), .int .i64 (hi : Nat), .int .u64 (hn' : Nat), .int .i64 (hu' : Nat), .bool false] rfl rfl HCA.out ?_)
        | (refine wpList_storeRow rfl rfl (w.heap.size + 1) #[.int .i64 0, .int .i64 0, .int .u64 0, .int .i64 0, .bool false] #[.int .i64 (hm : Nat), .int .i64 (hi : Nat), .int .u64 (hn' : Nat), .int .i64 (hu' : Nat), .bool false] 66 rfl rfl HAA.out HI5.out rfl HA5.out ?_))
      exact bodyPost_ret (end_h9 rfl (row_same HAA.out) rfl rfl) rfl ⟨rfl, _, by rw [HE.out]; exact HEND.out⟩
  · have g1 : ((hi : Int) == 31) = false := beq_eq_false_iff_ne.2 (by omega)
    have H31 := hide h31
    clear h31
    cases hs with
    | true =>
      as_aux_lemma =>
      have HCA : Hid (∀ j x, (#[.int .i64 (hm : Nat), .int .i64 (hi : Nat), .int .u64 (hn' : Nat), .int .i64 (hu' : Nat), .bool true] : Array Value)[j]? = some x → w1.cell? ⟨w.heap.size, 0 + j, none⟩ = some x) := fun j x hj => by rw [Nat.zero_add]; exact blk_cell HN1.out.h hj
      have HI5 : Hid ((Tryz.prog.info? 66).map (·.size) = some (#[.int .i64 (hm : Nat), .int .i64 (hi : Nat), .int .u64 (hn' : Nat), .int .i64 (hu' : Nat), .bool true] : Array Value).size) := infoHd
      have HA5 : Hid ((#[.int .i64 (hm : Nat), .int .i64 (hi : Nat), .int .u64 (hn' : Nat), .int .i64 (hu' : Nat), .bool true] : Array Value).all (·.oneCell') = true) := by show _ = _; simp [Value.oneCell']
      have HAA := hide HN1.out.a
      have HE : Hid (NS = ns) := by show _ = _; rw [HNS.out]; simp [H31.out]
      have HEND := hide (HN1.out.fin #[.int .i64 (hm : Nat), .int .i64 (hi : Nat), .int .u64 (hn' : Nat), .int .i64 (hu' : Nat), .bool true])
      clear HNS
      go_wp2_with (first
        | (refine wpList_aggAt rfl rfl HI.out HAG.out w.heap.size 0 #[.int .i64 (hm : Nat), .int .i64 (hi : Nat), .int .u64 (hn' : Nat), .int .i64 (hu' : Nat), .bool true] rfl rfl HCA.out ?_)
        | (refine wpList_storeRow rfl rfl (w.heap.size + 1) #[.int .i64 0, .int .i64 0, .int .u64 0, .int .i64 0, .bool false] #[.int .i64 (hm : Nat), .int .i64 (hi : Nat), .int .u64 (hn' : Nat), .int .i64 (hu' : Nat), .bool true] 66 rfl rfl HAA.out HI5.out rfl HA5.out ?_))
      exact bodyPost_ret (end_h9 rfl (row_same HAA.out) rfl rfl) rfl ⟨rfl, _, by rw [HE.out]; exact HEND.out⟩
    | false =>
      as_aux_lemma =>
      have HNO := hide (note9_itg HN1.out.i.i (by have := HNN.out; omega) m2 1)
      go_wp2_with fail
      refine HNO.out.mono ?_
      rintro e w2 ⟨rfl, hP⟩
      obtain ⟨vx1, hx1⟩ := hP.out
      have HN2 := hide (HN1.out.on hx1)
      have d11 : w2.cell? ⟨w.heap.size, 1, none⟩ = some (.int .i64 (hi : Nat)) := blk_cell (j := 1) HN2.out.h rfl
      clear hP HNO hx1
      have HCA : Hid (∀ j x, (#[.int .i64 (hm : Nat), .int .i64 (hi : Nat), .int .u64 (hn' : Nat), .int .i64 (hu' : Nat), .bool false] : Array Value)[j]? = some x → w2.cell? ⟨w.heap.size, 0 + j, none⟩ = some x) := fun j x hj => by rw [Nat.zero_add]; exact blk_cell HN2.out.h hj
      have HI5 : Hid ((Tryz.prog.info? 66).map (·.size) = some (#[.int .i64 (hm : Nat), .int .i64 (hi : Nat), .int .u64 (hn' : Nat), .int .i64 (hu' : Nat), .bool false] : Array Value).size) := infoHd
      have HA5 : Hid ((#[.int .i64 (hm : Nat), .int .i64 (hi : Nat), .int .u64 (hn' : Nat), .int .i64 (hu' : Nat), .bool false] : Array Value).all (·.oneCell') = true) := by show _ = _; simp [Value.oneCell']
      have HAA := hide HN2.out.a
      have HE : Hid (NS = ns ++ [(m2, 1)]) := by show _ = _; rw [HNS.out]; simp [H31.out]
      have HEND := hide (HN2.out.fin #[.int .i64 (hm : Nat), .int .i64 (hi : Nat), .int .u64 (hn' : Nat), .int .i64 (hu' : Nat), .bool false])
      clear HNS
      go_wp2_with (first
        | (refine wpList_aggAt rfl rfl HI.out HAG.out w.heap.size 0 #[.int .i64 (hm : Nat), .int .i64 (hi : Nat), .int .u64 (hn' : Nat), .int .i64 (hu' : Nat), .bool false] rfl rfl HCA.out ?_)
        | (refine wpList_storeRow rfl rfl (w.heap.size + 1) #[.int .i64 0, .int .i64 0, .int .u64 0, .int .i64 0, .bool false] #[.int .i64 (hm : Nat), .int .i64 (hi : Nat), .int .u64 (hn' : Nat), .int .i64 (hu' : Nat), .bool false] 66 rfl rfl HAA.out HI5.out rfl HA5.out ?_))
      exact bodyPost_ret (end_h9 rfl (row_same HAA.out) rfl rfl) rfl ⟨rfl, _, by rw [HE.out]; exact HEND.out⟩
end
section
open Go.RowKit Go
structure Gtb (w : World) (N0 R : Nat) (va : Value) (xs : List Nat) : Prop where
  v : w.heap[R]? = some (.cells #[va] 26 (0, 0))
  o : w.ownsRow N0 5 1 va xs.length (bv xs)
  g : N0 ≤ R
theorem append_bsl9 {ops : Array Oper} {rest : List Oper} {o : Oper} {a : Act} {Q : Exit → Act → World → Prop} {w : World} (hgd : o.guard = none) (s x : Operand)
    (ho : o.op = .call { callee := .builtin .append, args := #[s, x], argTypes := #[26, 26] }) (B : Nat) (v : Value) (n : Nat) (ds : List Nat) (hs : a.eval s = v) (hown : w.ownsRow B 5 1 v n (bv ds))
    (u : Value) (xs : List Nat) (hx : a.eval x = u) (hsl : BSl w u xs) (hlen : n + xs.length ≤ 140737488355328) (hbase : B ≤ w.heap.size)
    (h : ∀ v' w', w'.ownsRow B 5 1 v' (n + xs.length) (bv (ds ++ xs)) → w.grownBy w' v.ownBlock → (v'.ownBlock = v.ownBlock ∨ v'.ownBlock = some w.heap.size) → wpList Tryz.prog ops Q rest (a.put o.dst v') w') : wpList Tryz.prog ops Q (o :: rest) a w := by
  obtain ⟨i5, hi, hz0, hz1, hz2⟩ := info5_ex
  obtain ⟨⟨ad, cap, rfl, hn, hc⟩, hmax, hb⟩ := id hsl
  cases ad with
  | none =>
    rcases hc with rfl | ⟨_, _, e, _⟩
    · have := hn.2 rfl
      subst this
      refine wpList_append_own_none hgd s x 26 ho B 5 i5 1 Tryz.underlying26 hi v n (bv ds) hs hown hx (h v w ?_ ⟨rfl, rfl, rfl, Nat.le_refl _, fun _ _ _ => rfl⟩ (.inl rfl))
      simpa using hown
    · cases e
  | some ad =>
    refine wpList_append_own_at w hgd s x 26 ho B 5 i5 (.int .u8 0) 1 1 Tryz.underlying26 hi hz0 hz1 hz2 rfl (by decide) v n (bv ds) hs hown ad xs.length cap (bv xs) hx (by simp [bv]) hsl.src.2 (bv_one xs) (by unfold maxLen; omega) (by omega) hbase fun v' w' h1 h2 _ h4 => ?_
    exact h v' w' (by rw [bv_app]; exact h1) h2 h4
theorem octets1_any {w : World} {N0 R : Nat} {va : Value} {xs : List Nat} (h : Gtb w N0 R va xs) (at' : Int) (vp : Value) (ys : List Nat) (hp : BSl w vp ys) (hn : xs.length + ys.length ≤ 140737488351232) : Calls Tryz.prog 41 #[.int .i64 at', vp, .pointer (some ⟨R, 0, none⟩)] w fun e w' => e = .returned (.tuple #[]) ∧ Hid (∃ va', Gtb w' N0 R va' (xs ++ ys) ∧ Kp (fun q => q = R ∨ va.ownBlock = some q) w w' ∧ (va'.ownBlock = va.ownBlock ∨ ∀ q, va'.ownBlock = some q → w.heap.size ≤ q)) := by
  have HH := hide h
  have HP := hide hp
  have c0 : w.cell? ⟨R, 0, none⟩ = some va := blk_cell (j := 0) h.v rfl
  have HNE : Hid (∀ q, va.ownBlock = some q → ¬ q = R) := fun q e eq => by
    rcases id h.o.2 with ⟨rfl, _⟩ | ⟨k, cap, cur, rfl, _, hg, _⟩
    · cases e
    · have e2 : k = R := (Option.some.inj e).trans eq
      rw [e2, h.v] at hg
      injection hg with hg
      injection hg with _ h2 _
      exact absurd h2 (by decide)
  have HRL : Hid (R < w.heap.size) := blk_lt h.v
  have HBA : Hid (N0 ≤ w.heap.size) := by have h1 := h.g; have h2 := HRL.out; show _ ≤ _; omega
  have HLN : Hid (xs.length + ys.length ≤ 140737488355328) := by show _ ≤ _; omega
  obtain ⟨a0, cap0, hvn, -⟩ := own_formG h.o
  subst hvn
  have hpf := hp.form
  obtain ⟨ap, cp, rfl, -⟩ := hpf
  have HAP : Hid (∀ (ops : Array Oper) (rest : List Oper) (o : Oper) (ac : Act) (Q : Exit → Act → World → Prop) (s y' : Operand), o.guard = none → o.op = .call { callee := .builtin .append, args := #[s, y'], argTypes := #[26, 26] } → ac.eval s = .slice a0 xs.length cap0 → ac.eval y' = .slice ap ys.length cp → (∀ a' n' c' w', w'.ownsRow N0 5 1 (.slice a' n' c') (xs ++ ys).length (bv (xs ++ ys)) → Kp (fun q => (Value.slice a0 xs.length cap0).ownBlock = some q) w w' → ((Value.slice a' n' c').ownBlock = (Value.slice a0 xs.length cap0).ownBlock ∨ ∀ q, (Value.slice a' n' c').ownBlock = some q → w.heap.size ≤ q) → wpList Tryz.prog ops Q rest (ac.put o.dst (.slice a' n' c')) w') → wpList Tryz.prog ops Q (o :: rest) ac w) := fun ops rest o ac Q s y' h1 h2 h3 h4 h5 => by
    refine append_bsl9 h1 s y' h2 N0 _ xs.length xs h3 HH.out.o _ ys h4 HP.out HLN.out HBA.out (fun v' w' h6 h7 h8 => ?_)
    obtain ⟨a', c', hv', _⟩ := own_formG h6
    subst hv'
    refine h5 _ _ _ w' ?_ (kp_grown9 h7) (h8.imp id (fun e q eq => ?_))
    · rw [List.length_append]
      exact h6
    · rw [e] at eq
      have := Option.some.inj eq
      omega
  clear h hp hn
  go_enter Tryz.func41, Tryz.ntmps41
  go_wp2_with (refine HAP.out _ _ _ _ _ _ _ rfl rfl rfl rfl ?_; intro a' n' c' w2 h6 h7 h8; have hgb := (h7.block R HRL.out (fun e => HNE.out R e rfl)).trans HH.out.v; have c0b : w2.cell? ⟨R, 0, none⟩ = some (.slice a0 xs.length cap0) := blk_cell (j := 0) hgb rfl; have f0 : w2.frozen? ⟨R, 0, none⟩ = false := blk_frozen 0 hgb)
  go_end0
  refine ⟨rfl, .slice a' n' c', ?_, ?_, h8⟩
  · have hks : Kp (fun q => q = R) w2 (w2.setCell ⟨R, 0, none⟩ (.slice a' n' c')) := (Kp.refl (fun q => q = R) w2).setCell _ _ (fun _ => rfl)
    have hne2 : ∀ q, (Value.slice a' n' c').ownBlock = some q → ¬ q = R := fun q e eq => by
      rcases h8 with h | h
      · exact HNE.out q (h ▸ e) eq
      · have := h q e
        have := HRL.out
        omega
    exact ⟨blk_set 0 _ hgb, hks.owns h6 hne2, HH.out.g⟩
  · exact (h7.mono (fun _ _ e => .inr e)).trans ((Kp.refl (fun q => q = R) w2).setCell _ _ (fun _ => rfl)) (fun _ _ e => .inl e)
end
section
open Go.RowKit Go
theorem Itp.rdr {w w' : World} {N0 g : Nat} {v : Value} {b : List Nat} {dp p op p' op' : Nat} {vn : Value} {ns : List (Nat × Nat)} (h : Itp w N0 g v b dp p op vn ns) (hr : Rdr w' g 60 (itc v dp vn) v b dp p' op') (hk : Kp (fun q => q = g) w w') : Itg w w' N0 g v b dp p' op' vn vn ns := by
  have hg := h.g
  exact ⟨⟨hr, hk.owns h.o (fun q e => h.ne q e), hg, fun wy hy => h.bs wy ((hk.mono (fun q _ e => by omega)).trans hy (fun _ _ e => e))⟩, hk.mono (fun _ _ e => .inl e), .inl rfl⟩
end
section
open Go.RowKit Go
structure Clo {σ : Type} (fn : FuncId) (caps : List Value) (N0 : Nat) (cl : World → σ → (Nat → Prop) → Prop) (st : σ → Nat → List Nat → σ) (sz : σ → Nat) : Prop where
  enter : ∀ args wx, (callFunc fn args).run Tryz.prog wx = .ok (.enter fn args) wx
  keep : ∀ {wx wy : World} {s : σ} {D S : Nat → Prop}, cl wx s D → Kp S wx wy → (∀ q, D q → ¬ S q) → (∀ q, S q → N0 ≤ q) → cl wy s D
  low : ∀ {wx : World} {s : σ} {D : Nat → Prop} {q : Nat}, cl wx s D → D q → N0 ≤ q
  typ : ∀ {wx : World} {s : σ} {D : Nat → Prop} {q : Nat}, cl wx s D → D q → ∃ c T, wx.heap[q]? = some (.cells c T (0, 0)) ∧ T ≠ 66 ∧ T ≠ 60 ∧ T ≠ 55
  size : ∀ s p ys, sz (st s p ys) = sz s + ys.length
  call : ∀ {wx : World} {s : σ} {D : Nat → Prop} {vp : Value} {ys : List Nat} (p : Nat), cl wx s D → BSl wx vp ys → (∀ y ∈ ys, y < 256) → sz s + ys.length ≤ 140737488351232 → Calls Tryz.prog fn ([.int .i64 (p : Nat), vp] ++ caps).toArray wx fun e w' => e = .returned (.tuple #[]) ∧ Hid (∃ D', cl w' (st s p ys) D' ∧ Kp D wx w' ∧ ∀ q, D' q → D q ∨ wx.heap.size ≤ q)
structure Opc {σ : Type} (w wx : World) (N0 g : Nat) (v : Value) (b : List Nat) (dp p op : Nat) (vn vx : Value) (ns : List (Nat × Nat)) (cl : World → σ → (Nat → Prop) → Prop) (D0 D : Nat → Prop) (s : σ) : Prop where
  i : Itp wx N0 g v b dp p op vx ns
  t : cl wx s D
  k : Kp (fun q => q = g ∨ vn.ownBlock = some q ∨ D0 q) w wx
  nn : vx.ownBlock = vn.ownBlock ∨ ∀ q, vx.ownBlock = some q → w.heap.size ≤ q
  nt : ∀ q, D q → D0 q ∨ w.heap.size ≤ q
section
variable {σ : Type} {fn : FuncId} {caps : List Value} {N0 : Nat} {cl : World → σ → (Nat → Prop) → Prop} {st : σ → Nat → List Nat → σ} {sz : σ → Nat} {w wx wy : World} {g : Nat} {v : Value} {b : List Nat} {dp p op p' op' : Nat} {vn vx vx' : Value} {ns ns' : List (Nat × Nat)} {D0 D D' : Nat → Prop} {s s' : σ}
theorem Opc.start (hi : Itp w N0 g v b dp p op vn ns) (ht : cl w s D0) : Opc w w N0 g v b dp p op vn vn ns cl D0 D0 s := ⟨hi, ht, Kp.refl _ _, .inl rfl, fun _ h => .inl h⟩
theorem Clo.ne (hC : Clo fn caps N0 cl st sz) (ht : cl wx s D) {H : Nat} {c : Array Value} {T : TypeId} (hH : wx.heap[H]? = some (.cells c T (0, 0))) (hT : T = 66 ∨ T = 60 ∨ T = 55) : ¬ D H := by
  intro h
  obtain ⟨c', T', h1, h2, h3, h4⟩ := hC.typ ht h
  rw [hH] at h1
  injection h1 with h1
  injection h1 with _ h5 _
  subst h5
  rcases hT with e | e | e
  · exact h2 e
  · exact h3 e
  · exact h4 e
theorem Opc.no (h : Opc w wx N0 g v b dp p op vn vx ns cl D0 D s) (hC : Clo fn caps N0 cl st sz) : ∀ q, D q → ¬ (q = g ∨ vx.ownBlock = some q) := by
  rintro q hq (e | e)
  · exact hC.ne h.t h.i.r.blk (.inr (.inl rfl)) (e ▸ hq)
  · obtain ⟨c, hc⟩ := own_block_type h.i.o e
    exact hC.ne h.t hc (.inr (.inr rfl)) hq
theorem Opc.itg (h : Opc w wx N0 g v b dp p op vn vx ns cl D0 D s) (hC : Clo fn caps N0 cl st sz) (h2 : Itg wx wy N0 g v b dp p' op' vx vx' ns') : Opc w wy N0 g v b dp p' op' vn vx' ns' cl D0 D s := by
  have hs := h.k.size
  refine ⟨h2.i, hC.keep h.t h2.k (h.no hC) (fun q e => e.elim (fun e => e ▸ h.i.g) (fun e => (h.i.o.lt q e).1)), h.k.trans h2.k (fun q hq e => ?_), ?_, h.nt⟩
  · rcases e with e | e
    · exact .inl e
    · rcases h.nn with hn | hn
      · exact .inr (.inl (hn ▸ e))
      · have := hn q e
        omega
  · rcases h2.n with h3 | h3
    · rcases h.nn with hn | hn
      · exact .inl (h3.trans hn)
      · exact .inr (fun q e => hn q (h3 ▸ e))
    · exact .inr (fun q e => by have := h3 q e; omega)
theorem Opc.gat (h : Opc w wx N0 g v b dp p op vn vx ns cl D0 D s) (hC : Clo fn caps N0 cl st sz) (ht : cl wy s' D') (hk : Kp D wx wy) (hn : ∀ q, D' q → D q ∨ wx.heap.size ≤ q) : Opc w wy N0 g v b dp p op vn vx ns cl D0 D' s' := by
  have hs := h.k.size
  have hno := h.no hC
  have hN : Kp (fun q => N0 ≤ q) wx wy := hk.mono (fun q _ e => hC.low h.t e)
  have hg := h.i.g
  refine ⟨⟨⟨(hk.block _ (blk_lt h.i.r.blk) (fun e => hno _ e (.inl rfl))).trans h.i.r.blk, h.i.r.z, h.i.r.c0, h.i.r.c2, fun wz hz => h.i.bs wz (hN.trans hz (fun q _ e => by omega)), h.i.r.hb, h.i.r.hp, h.i.r.ho⟩, hk.owns h.i.o (fun q e s => hno q s (.inr e)), hg, fun wz hz => h.i.bs wz (hN.trans hz (fun _ _ e => e))⟩, ht, h.k.trans hk (fun q hq e => ?_), h.nn, fun q e => ?_⟩
  · rcases h.nt q e with h3 | h3
    · exact .inr (.inr h3)
    · omega
  · rcases hn q e with h3 | h3
    · exact h.nt q h3
    · exact .inr (by omega)
theorem Opc.kept {H : Nat} {c : Array Value} (h : Opc w wx N0 g v b dp p op vn vx ns cl D0 D s) (hH : wx.heap[H]? = some (.cells c 66 (0, 0))) (h2 : Itg wx wy N0 g v b dp p' op' vx vx' ns') : wy.heap[H]? = some (.cells c 66 (0, 0)) := by
  refine (h2.k.block _ (blk_lt hH) (fun e => ?_)).trans hH
  rcases e with e | e
  · have h1 := h.i.r.blk
    rw [← e, hH] at h1
    injection h1 with h1
    injection h1 with _ h2 _
    exact absurd h2 (by decide)
  · exact own_not h.i.o hH (by decide) e
theorem Opc.keptG {H : Nat} {c : Array Value} (h : Opc w wx N0 g v b dp p op vn vx ns cl D0 D s) (hC : Clo fn caps N0 cl st sz) (hH : wx.heap[H]? = some (.cells c 66 (0, 0))) (hk : Kp D wx wy) : wy.heap[H]? = some (.cells c 66 (0, 0)) :=
  (hk.block _ (blk_lt hH) (hC.ne h.t hH (.inl rfl))).trans hH
theorem Opc.set {H : Nat} {c c' : Array Value} (h : Opc w wx N0 g v b dp p op vn vx ns cl D0 D s) (hC : Clo fn caps N0 cl st sz) (hH : wx.heap[H]? = some (.cells c 66 (0, 0))) (hw : w.heap.size ≤ H) (hN : N0 ≤ w.heap.size) : Opc w (wx.setRow H c') N0 g v b dp p op vn vx ns cl D0 D s := by
  have hkr := row_kp wx H c'
  have hg := h.i.g
  have h1 : H ≠ g := fun e => by
    have h1 := h.i.r.blk
    rw [← e, hH] at h1
    injection h1 with h1
    injection h1 with _ h2 _
    exact absurd h2 (by decide)
  have hks : Kp (fun q => N0 ≤ q) wx (wx.setRow H c') := hkr.mono (fun q _ e => by omega)
  exact ⟨⟨⟨(hkr.block _ (blk_lt h.i.r.blk) (fun e => h1 e.symm)).trans h.i.r.blk, h.i.r.z, h.i.r.c0, h.i.r.c2, fun wy hy => h.i.bs wy (hks.trans hy (fun q _ e => by omega)), h.i.r.hb, h.i.r.hp, h.i.r.ho⟩, hkr.owns h.i.o (fun q e eq => own_not h.i.o hH (by decide) (eq ▸ e)), hg, fun wy hy => h.i.bs wy (hks.trans hy (fun _ _ e => e))⟩, hC.keep h.t hkr (fun q hq e => hC.ne h.t hH (.inl rfl) (e ▸ hq)) (fun q e => by omega), h.k.trans hkr (fun q hq e => by omega), h.nn, h.nt⟩
end
def lprtg {σ : Type} (st : σ → Nat → List Nat → σ) (b : List Nat) (dp mj op : Nat) : Nat → Nat → σ → List (Nat × Nat) → Lx (σ × List (Nat × Nat) × Nat)
  | 0, _, _, _ => .error (0, 0)
  | j + 1, p, s, ns => if b[p]? = some 255 then .ok (s, ns, p + 1) else lbind (lpiec b dp mj p op) fun x => lprtg st b dp mj op j (x.2 + x.1.n) (st s p ((b.drop x.2).take x.1.n)) (lnot x.2 x.1 ns)
def lallg {σ : Type} (st : σ → Nat → List Nat → σ) (b : List Nat) (dp J op p : Nat) (h : HR) (s : σ) (ns : List (Nat × Nat)) : Lx (σ × List (Nat × Nat) × Nat) := if h.i = 31 then lprtg st b dp h.m op J p s ns else .ok (st s (p - h.u) ((b.drop p).take h.n), ns, p + h.n)
def EpC {σ : Type} (w : World) (N0 g : Nat) (v : Value) (b : List Nat) (dp op : Nat) (vn : Value) (cl : World → σ → (Nat → Prop) → Prop) (D0 : Nat → Prop) (r : Lx (σ × List (Nat × Nat) × Nat)) (e : Ending) (w' : World) : Prop := (∃ x vx D, r = .ok x ∧ e = .returned (.tuple #[]) ∧ Opc w w' N0 g v b dp x.2.2 op vn vx x.2.1 cl D0 D x.1) ∨ ∃ c q, r = .error (c, q) ∧ e = gup c q ∧ Kp (fun q => q = g ∨ vn.ownBlock = some q ∨ D0 q) w w'
theorem piec_ok {b : List Nat} {dp mj p op : Nat} {x : HR × Nat} (h : lpiec b dp mj p op = .ok x) : x.1.u ≤ x.2 ∧ x.1.i ≠ 31 ∧ p ≤ x.2 := by
  unfold lpiec lbind at h
  split at h
  · cases h
  · dsimp only at h
    split at h
    · cases h
    · injection h with h
      subst h
      refine ⟨by simp, ?_, by simp⟩
      rename_i h1
      simp only [not_or] at h1
      exact h1.2
theorem not_len (p : Nat) (h : HR) (ns : List (Nat × Nat)) : (lnot p h ns).length ≤ ns.length + 2 := by
  unfold lnot
  split <;> split <;> simp
theorem piece9_ok {w : World} {g : Nat} {T : TypeId} {C : Array Value} {v : Value} {b : List Nat} {dp p op : Nat} (hR : Rdr w g T C v b dp p op) (mj : Nat) {x : HR × Nat} (hx : lpiec b dp mj p op = .ok x) : Calls Tryz.prog 37 #[.pointer (some ⟨g, 0, none⟩), .int .i64 (mj : Nat)] w fun e w' => e = .returned x.1.val ∧ Rdr w' g T C v b dp x.2 op ∧ Kp (fun q => q = g) w w' := by
  refine (piece9_any hR mj).mono ?_
  rintro e w' ⟨hk, ⟨y, hy, rfl, hr⟩ | ⟨c, q, hy, rfl⟩⟩
  · rw [hx] at hy
    injection hy with hy
    subst hy
    exact ⟨rfl, hr, hk⟩
  · rw [hx] at hy
    cases hy
theorem piece9_no {w : World} {g : Nat} {T : TypeId} {C : Array Value} {v : Value} {b : List Nat} {dp p op : Nat} (hR : Rdr w g T C v b dp p op) (mj : Nat) {c q : Nat} (hx : lpiec b dp mj p op = .error (c, q)) : Calls Tryz.prog 37 #[.pointer (some ⟨g, 0, none⟩), .int .i64 (mj : Nat)] w fun e w' => e = .panicked [{ v := .iface 31 (.agg #[.int .i64 (c : Nat), .int .i64 (q : Nat)]), recovered := false }] ∧ Kp (fun q => q = g) w w' := by
  refine (piece9_any hR mj).mono ?_
  rintro e w' ⟨hk, ⟨y, hy, rfl, hr⟩ | ⟨c, q, hy, rfl⟩⟩
  · rw [hx] at hy
    cases hy
  · rw [hx] at hy
    injection hy with hy
    injection hy with h1 h2
    subst h1 h2
    exact ⟨rfl, hk⟩
end
section
open Go.RowKit Go

end
end Go.Proofs.YtmcamdcgnegmmaaGreatDoor
