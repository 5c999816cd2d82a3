import Derived.Test.YtagkogpjckjobaaGreatDoorJl
import Derived.Test.YtagkogpjckjobaaGreatDoorJm
import Derived.Test.YtagkogpjckjobaaGreatDoorJd
import Derived.Test.YtagkogpjckjobaaGreatDoorJe
import Derived.Test.YtagkogpjckjobaaGreatDoorJi
namespace Go.Proofs.YtagkogpjckjobaaGreatDoor
section
open Go.RowKit Go
/-! ### Two tables that tell the same -/
structure Als (w0 w : World) (N1 T1 g1 N2 T2 g2 : Nat) (l1 l2 : List Tp) (wx : World) : Prop where
  t1 : Tst wx N1 T1 g1 l1
  t2 : Tst wx N2 T2 g2 l2
  k : Kp (fun q => q = g1 ∨ q = g2) w wx
  b : Below w0.heap.size w0 wx
theorem Als.next {w0 w wx wy : World} {N1 T1 g1 N2 T2 g2 : Nat} {l1 l2 : List Tp} (h : Als w0 w N1 T1 g1 N2 T2 g2 l1 l2 wx) (hb : Below wx.heap.size wx wy) : Als w0 w N1 T1 g1 N2 T2 g2 l1 l2 wy :=
  ⟨h.t1.next hb, h.t2.next hb, h.k.trans (Kp.of_below (S := fun _ => False) hb) (fun _ _ e => e.elim), h.b.trans (hb.mono h.b.size)⟩
theorem Als.one {w0 w wx wy : World} {N1 T1 g1 N2 T2 g2 : Nat} {l1 l2 : List Tp} (h : Als w0 w N1 T1 g1 N2 T2 g2 l1 l2 wx) (hk : Kp (fun q => q = g1) wx wy) (t : Tst wy N1 T1 g1 l1) (h12 : T1 ≤ N2) (h0 : w0.heap.size ≤ N1) : Als w0 w N1 T1 g1 N2 T2 g2 l1 l2 wy := by
  obtain ⟨c, hc⟩ := h.t1.cells
  have hg := h.t1.g
  exact ⟨t, h.t2.other hk (.inl (by omega)) hc, h.k.trans hk (fun _ _ e => .inl e), h.b.trans (hk.below h.b.size (fun q e => by omega))⟩
theorem Als.two {w0 w wx wy : World} {N1 T1 g1 N2 T2 g2 : Nat} {l1 l2 : List Tp} (h : Als w0 w N1 T1 g1 N2 T2 g2 l1 l2 wx) (hk : Kp (fun q => q = g2) wx wy) (t : Tst wy N2 T2 g2 l2) (h12 : T1 ≤ N2) (h0 : w0.heap.size ≤ N1) : Als w0 w N1 T1 g1 N2 T2 g2 l1 l2 wy := by
  obtain ⟨c, hc⟩ := h.t2.cells
  have hg := h.t1.g
  have hg2 := h.t2.g
  exact ⟨h.t1.other hk (.inr (by omega)) hc, t, h.k.trans hk (fun _ _ e => .inr e), h.b.trans (hk.below h.b.size (fun q e => by omega))⟩
/-- A variable that holds a type which stays while the tables are written to. -/
structure Avr (wx : World) (g1 g2 gx : Nat) (c : Array Value) (t : Tp) : Prop where
  x : wx.heap[gx]? = some (.cells c 29 (0, 0))
  t : ∀ wy, Kp (fun q => q = g1 ∨ q = g2) wx wy → Tpi wy t c
  n : gx ≠ g1 ∧ gx ≠ g2
theorem Avr.kp {wx wy : World} {g1 g2 gx : Nat} {c : Array Value} {t : Tp} (h : Avr wx g1 g2 gx c t) (hk : Kp (fun q => q = g1 ∨ q = g2) wx wy) : Avr wy g1 g2 gx c t :=
  ⟨(hk.block _ (blk_lt h.x) (fun e => e.elim h.n.1 h.n.2)).trans h.x, fun wz hz => h.t wz (hk.trans hz (fun _ _ e => e)), h.n⟩
theorem Avr.next {wx wy : World} {g1 g2 gx : Nat} {c : Array Value} {t : Tp} (h : Avr wx g1 g2 gx c t) (hb : Below wx.heap.size wx wy) : Avr wy g1 g2 gx c t := h.kp (Kp.mono (Kp.of_below (S := fun _ => False) hb) (fun _ _ e => e.elim))
theorem Avr.of {w w1 : World} {g1 g2 : Nat} {c Z : Array Value} {t : Tp} (hb : Below w.heap.size w w1) (h1 : g1 < w.heap.size) (h2 : g2 < w.heap.size) (hK : ∀ (S : Nat → Prop) wy, (∀ q, S q → q < w.heap.size) → Kp S w1 wy → Tpi wy t c) : Avr ((w1.alloc (.cells Z 29)).setRow w1.heap.size c) g1 g2 w1.heap.size c t ∧ Below w1.heap.size w1 ((w1.alloc (.cells Z 29)).setRow w1.heap.size c) := by
  have hs := hb.size
  have hb1 := below_alloc4 w1 (.cells Z 29)
  have hk : Kp (fun _ => False) w1 ((w1.alloc (.cells Z 29)).setRow w1.heap.size c) := (Kp.of_below (S := fun _ => False) hb1).trans (row_kp _ w1.heap.size c) (fun q hq e => by omega)
  exact ⟨⟨row_same (heap_alloc_new w1 _), fun wy hy => hK (fun q => q = g1 ∨ q = g2) wy (fun q e => by omega) ((hk.mono (fun _ _ e => e.elim)).trans hy (fun _ _ e => e)), by omega, by omega⟩, hk.below (Nat.le_refl _) (fun q e => e.elim)⟩
set_option maxRecDepth 1000000 in
set_option maxHeartbeats 8000000 in
theorem alike_any {w0 w : World} {N1 T1 g1 N2 T2 g2 : Nat} {l1 l2 : List Tp} (hA : Als w0 w N1 T1 g1 N2 T2 g2 l1 l2 w) (h12 : T1 ≤ N2) (hO : Otb w0) (h0 : w0.heap.size ≤ N1) (hS1 : Shrt l1) (hS2 : Shrt l2) (hr1 : ∀ t ∈ l1, t.r.n.size ≤ 140737488351232) (hr2 : ∀ t ∈ l2, t.r.n.size ≤ 140737488351232) (h641 : l1.length ≤ 64) (h642 : l2.length ≤ 64) (vn : Value) (ns : List ByteArray) (hn : ∀ wy, Kp (fun q => q = g1 ∨ q = g2) w wy → SSl wy vn ns)
    (hq : ∀ s ∈ ns, fnd l1 s = fnd l2 s ∧ fnd l1 (flo l1 s).1 = fnd l2 (flo l2 s).1 ∧ ∀ F1 F2, Fls l1 F1 → Fls l2 F2 → memb F1 s = memb F2 s) : Calls Tryz.prog 12 #[.pointer (some ⟨g1, 0, none⟩), .pointer (some ⟨g2, 0, none⟩), vn] w fun e w' => e = .returned (.bool true) ∧ Hid (Als w0 w N1 T1 g1 N2 T2 g2 l1 l2 w') := by
  have HA0 := hide hA
  have H12 := hide h12
  have HO := hide hO
  have H0 := hide h0
  have HS1 := hide hS1
  have HS2 := hide hS2
  have HR1 := hide hr1
  have HR2 := hide hr2
  have H641 := hide h641
  have H642 := hide h642
  have HQ := hide hq
  have HN := hide hn
  have hN := hn w (Kp.refl _ _)
  have HNM := hide hN.max
  have HNS := hide hN.size
  obtain ⟨⟨an, cn, rfl, _, _⟩, _, _⟩ := hN
  have HI := hide infoTp
  have HAG : Hid (∀ w, (isAgg 29).run Tryz.prog w = .ok true w) := aggTp
  have hmax : ns.length ≤ 140737488351232 := HNM.out
  clear hA h12 hO h0 hS1 hS2 hr1 hr2 h641 h642 hq hn
  go_enter Tryz.func12, Tryz.ntmps12
  go_wp2_with fail
  go_loopw [7] (fun vi wx => ∃ (i : Nat), i ≤ ns.length ∧ vi = .int .i64 (i : Nat) ∧ Hid (Als w0 w N1 T1 g1 N2 T2 g2 l1 l2 wx)) (fun vi _ => ns.length - (intOf vi).toNat)
  case atStart => exact ⟨0, by omega, rfl, HA0⟩
  case round =>
    obtain ⟨i, hi, rfl, HA⟩ := hrel
    clear HA0
    by_cases hlt : i < ns.length
    · have g1' : (i : Int) < (ns.length : Int) := by omega
      obtain ⟨s, hs⟩ : ∃ s, ns[i]? = some s := ⟨ns[i], List.getElem?_eq_getElem hlt⟩
      have hsm := List.mem_of_getElem? hs
      have HSZ := hide (HNS.out s hsm)
      have HE1 := hide (HQ.out s hsm).1
      have HE2 := hide (HQ.out s hsm).2.1
      have HE3 := hide (HQ.out s hsm).2.2
      obtain ⟨b, off, han⟩ : ∃ b off, an = some ⟨b, off, none⟩ := by
        obtain ⟨⟨a, c, e, _, hc⟩, _, _⟩ := HN.out w (Kp.refl _ _)
        injection e with e1 e2 e3
        obtain ⟨b, off, e4, _⟩ := hc.resolve_left (fun h => by rw [h] at hs; simp at hs)
        exact ⟨b, off, e1.trans e4⟩
      subst han
      have HCL : Hid (∀ wy, Kp (fun q => q = g1 ∨ q = g2) w wy → wy.cell? ⟨b, off + i, none⟩ = some (.string s)) := fun wy hy => by
        obtain ⟨⟨a, c, e, _, hc⟩, _, _⟩ := HN.out wy hy
        injection e with e1 e2 e3
        obtain ⟨b', off', e4, h⟩ := hc.resolve_left (fun h => by rw [h] at hs; simp at hs)
        have e5 := Option.some.inj (e1.trans e4)
        injection e5 with e6 e7 e8
        subst e6
        subst e7
        exact h i s hs
      clear hs hsm HNS HQ HNM HN
      have q4 : wr.cell? ⟨b, off + i, none⟩ = some (.string s) := HCL.out wr HA.out.k
      go_wp2_with fail
      refine (tst_find2 HA.out.t1 (HO.out.next (keep_below HA.out.b)) HS1.out s HSZ.out).mono ?_
      rintro e u4 ⟨c4, rfl, hP⟩
      have hX := Avr.of (Z := #[.string ⟨#[]⟩, .int .i64 0, .int .i64 0, .int .i64 0, .string ⟨#[]⟩, .bool false, .slice none 0 0, .slice none 0 0, .slice none 0 0]) hP.out.2.1 (show g1 < wr.heap.size from by obtain ⟨c, hc⟩ := HA.out.t1.cells; exact blk_lt hc) (show g2 < wr.heap.size from by obtain ⟨c, hc⟩ := HA.out.t2.cells; exact blk_lt hc) hP.out.2.2
      have hbb : Below wr.heap.size wr ((u4.alloc (.cells #[.string ⟨#[]⟩, .int .i64 0, .int .i64 0, .int .i64 0, .string ⟨#[]⟩, .bool false, .slice none 0 0, .slice none 0 0, .slice none 0 0] 29)).setRow u4.heap.size c4) := hP.out.2.1.trans (hX.2.mono hP.out.2.1.size)
      have HV4 := hide hX.1
      have HI4 : Hid ((Tryz.prog.info? 29).map (·.size) = some c4.size) := by show _ = _; rw [hP.out.1.size9]; exact infoTp
      have HZ4 : Hid ((#[.string ⟨#[]⟩, .int .i64 0, .int .i64 0, .int .i64 0, .string ⟨#[]⟩, .bool false, .slice none 0 0, .slice none 0 0, .slice none 0 0] : Array Value).size = c4.size) := by show _ = _; rw [hP.out.1.size9]; rfl
      have HZ94 := hide hP.out.1.size9
      have HO4 := hide hP.out.1.all1
      have HM4 := hide (heap_alloc_new u4 (.cells #[.string ⟨#[]⟩, .int .i64 0, .int .i64 0, .int .i64 0, .string ⟨#[]⟩, .bool false, .slice none 0 0, .slice none 0 0, .slice none 0 0] 29))
      replace HA := hide (HA.out.next hbb)
      clear q4 hP hX hbb
      have q5 : ((u4.alloc (.cells #[.string ⟨#[]⟩, .int .i64 0, .int .i64 0, .int .i64 0, .string ⟨#[]⟩, .bool false, .slice none 0 0, .slice none 0 0, .slice none 0 0] 29)).setRow u4.heap.size c4).cell? ⟨b, off + i, none⟩ = some (.string s) := HCL.out _ HA.out.k
      go_wp2_with (refine wpList_storeRow rfl rfl u4.heap.size #[.string ⟨#[]⟩, .int .i64 0, .int .i64 0, .int .i64 0, .string ⟨#[]⟩, .bool false, .slice none 0 0, .slice none 0 0, .slice none 0 0] c4 29 rfl rfl HM4.out HI4.out HZ4.out HO4.out ?_)
      generalize (u4.alloc (.cells #[.string ⟨#[]⟩, .int .i64 0, .int .i64 0, .int .i64 0, .string ⟨#[]⟩, .bool false, .slice none 0 0, .slice none 0 0, .slice none 0 0] 29)).setRow u4.heap.size c4 = W4 at *
      refine (tst_find2 HA.out.t2 (HO.out.next (keep_below HA.out.b)) HS2.out s HSZ.out).mono ?_
      rintro e u5 ⟨c5, rfl, hP⟩
      rw [← HE1.out] at hP ⊢
      have hX := Avr.of (Z := #[.string ⟨#[]⟩, .int .i64 0, .int .i64 0, .int .i64 0, .string ⟨#[]⟩, .bool false, .slice none 0 0, .slice none 0 0, .slice none 0 0]) hP.out.2.1 (show g1 < W4.heap.size from by obtain ⟨c, hc⟩ := HA.out.t1.cells; exact blk_lt hc) (show g2 < W4.heap.size from by obtain ⟨c, hc⟩ := HA.out.t2.cells; exact blk_lt hc) hP.out.2.2
      have hbb : Below W4.heap.size W4 ((u5.alloc (.cells #[.string ⟨#[]⟩, .int .i64 0, .int .i64 0, .int .i64 0, .string ⟨#[]⟩, .bool false, .slice none 0 0, .slice none 0 0, .slice none 0 0] 29)).setRow u5.heap.size c5) := hP.out.2.1.trans (hX.2.mono hP.out.2.1.size)
      have HV5 := hide hX.1
      have HI5 : Hid ((Tryz.prog.info? 29).map (·.size) = some c5.size) := by show _ = _; rw [hP.out.1.size9]; exact infoTp
      have HZ5 : Hid ((#[.string ⟨#[]⟩, .int .i64 0, .int .i64 0, .int .i64 0, .string ⟨#[]⟩, .bool false, .slice none 0 0, .slice none 0 0, .slice none 0 0] : Array Value).size = c5.size) := by show _ = _; rw [hP.out.1.size9]; rfl
      have HZ95 := hide hP.out.1.size9
      have HO5 := hide hP.out.1.all1
      have HM5 := hide (heap_alloc_new u5 (.cells #[.string ⟨#[]⟩, .int .i64 0, .int .i64 0, .int .i64 0, .string ⟨#[]⟩, .bool false, .slice none 0 0, .slice none 0 0, .slice none 0 0] 29))
      replace HA := hide (HA.out.next hbb)
      replace HV4 := hide (HV4.out.next hbb)
      clear q5 hP hX hbb
      generalize (fnd l1 s).2 = B5 at *
      have q6 : ((u5.alloc (.cells #[.string ⟨#[]⟩, .int .i64 0, .int .i64 0, .int .i64 0, .string ⟨#[]⟩, .bool false, .slice none 0 0, .slice none 0 0, .slice none 0 0] 29)).setRow u5.heap.size c5).cell? ⟨b, off + i, none⟩ = some (.string s) := HCL.out _ HA.out.k
      go_wp2_with (refine wpList_storeRow rfl rfl u5.heap.size #[.string ⟨#[]⟩, .int .i64 0, .int .i64 0, .int .i64 0, .string ⟨#[]⟩, .bool false, .slice none 0 0, .slice none 0 0, .slice none 0 0] c5 29 rfl rfl HM5.out HI5.out HZ5.out HO5.out ?_)
      generalize (u5.alloc (.cells #[.string ⟨#[]⟩, .int .i64 0, .int .i64 0, .int .i64 0, .string ⟨#[]⟩, .bool false, .slice none 0 0, .slice none 0 0, .slice none 0 0] 29)).setRow u5.heap.size c5 = W5 at *
      refine (tst_base HA.out.t1 (HO.out.next (keep_below HA.out.b)) HS1.out HR1.out s HSZ.out).mono ?_
      rintro e u6 ⟨c6, rfl, hP⟩
      have hX := Avr.of (Z := #[.string ⟨#[]⟩, .int .i64 0, .int .i64 0, .int .i64 0, .string ⟨#[]⟩, .bool false, .slice none 0 0, .slice none 0 0, .slice none 0 0]) hP.out.2.1 (show g1 < W5.heap.size from by obtain ⟨c, hc⟩ := HA.out.t1.cells; exact blk_lt hc) (show g2 < W5.heap.size from by obtain ⟨c, hc⟩ := HA.out.t2.cells; exact blk_lt hc) hP.out.2.2
      have hbb : Below W5.heap.size W5 ((u6.alloc (.cells #[.string ⟨#[]⟩, .int .i64 0, .int .i64 0, .int .i64 0, .string ⟨#[]⟩, .bool false, .slice none 0 0, .slice none 0 0, .slice none 0 0] 29)).setRow u6.heap.size c6) := hP.out.2.1.trans (hX.2.mono hP.out.2.1.size)
      have HV6 := hide hX.1
      have HI6 : Hid ((Tryz.prog.info? 29).map (·.size) = some c6.size) := by show _ = _; rw [hP.out.1.size9]; exact infoTp
      have HZ6 : Hid ((#[.string ⟨#[]⟩, .int .i64 0, .int .i64 0, .int .i64 0, .string ⟨#[]⟩, .bool false, .slice none 0 0, .slice none 0 0, .slice none 0 0] : Array Value).size = c6.size) := by show _ = _; rw [hP.out.1.size9]; rfl
      have HZ96 := hide hP.out.1.size9
      have HO6 := hide hP.out.1.all1
      have HM6 := hide (heap_alloc_new u6 (.cells #[.string ⟨#[]⟩, .int .i64 0, .int .i64 0, .int .i64 0, .string ⟨#[]⟩, .bool false, .slice none 0 0, .slice none 0 0, .slice none 0 0] 29))
      replace HA := hide (HA.out.next hbb)
      replace HV4 := hide (HV4.out.next hbb)
      replace HV5 := hide (HV5.out.next hbb)
      clear q6 hP hX hbb
      have q7 : ((u6.alloc (.cells #[.string ⟨#[]⟩, .int .i64 0, .int .i64 0, .int .i64 0, .string ⟨#[]⟩, .bool false, .slice none 0 0, .slice none 0 0, .slice none 0 0] 29)).setRow u6.heap.size c6).cell? ⟨b, off + i, none⟩ = some (.string s) := HCL.out _ HA.out.k
      go_wp2_with (refine wpList_storeRow rfl rfl u6.heap.size #[.string ⟨#[]⟩, .int .i64 0, .int .i64 0, .int .i64 0, .string ⟨#[]⟩, .bool false, .slice none 0 0, .slice none 0 0, .slice none 0 0] c6 29 rfl rfl HM6.out HI6.out HZ6.out HO6.out ?_)
      generalize (u6.alloc (.cells #[.string ⟨#[]⟩, .int .i64 0, .int .i64 0, .int .i64 0, .string ⟨#[]⟩, .bool false, .slice none 0 0, .slice none 0 0, .slice none 0 0] 29)).setRow u6.heap.size c6 = W6 at *
      refine (tst_base HA.out.t2 (HO.out.next (keep_below HA.out.b)) HS2.out HR2.out s HSZ.out).mono ?_
      rintro e u7 ⟨c7, rfl, hP⟩
      rw [← HE2.out] at hP ⊢
      have hX := Avr.of (Z := #[.string ⟨#[]⟩, .int .i64 0, .int .i64 0, .int .i64 0, .string ⟨#[]⟩, .bool false, .slice none 0 0, .slice none 0 0, .slice none 0 0]) hP.out.2.1 (show g1 < W6.heap.size from by obtain ⟨c, hc⟩ := HA.out.t1.cells; exact blk_lt hc) (show g2 < W6.heap.size from by obtain ⟨c, hc⟩ := HA.out.t2.cells; exact blk_lt hc) hP.out.2.2
      have hbb : Below W6.heap.size W6 ((u7.alloc (.cells #[.string ⟨#[]⟩, .int .i64 0, .int .i64 0, .int .i64 0, .string ⟨#[]⟩, .bool false, .slice none 0 0, .slice none 0 0, .slice none 0 0] 29)).setRow u7.heap.size c7) := hP.out.2.1.trans (hX.2.mono hP.out.2.1.size)
      have HV7 := hide hX.1
      have HI7 : Hid ((Tryz.prog.info? 29).map (·.size) = some c7.size) := by show _ = _; rw [hP.out.1.size9]; exact infoTp
      have HZ7 : Hid ((#[.string ⟨#[]⟩, .int .i64 0, .int .i64 0, .int .i64 0, .string ⟨#[]⟩, .bool false, .slice none 0 0, .slice none 0 0, .slice none 0 0] : Array Value).size = c7.size) := by show _ = _; rw [hP.out.1.size9]; rfl
      have HZ97 := hide hP.out.1.size9
      have HO7 := hide hP.out.1.all1
      have HM7 := hide (heap_alloc_new u7 (.cells #[.string ⟨#[]⟩, .int .i64 0, .int .i64 0, .int .i64 0, .string ⟨#[]⟩, .bool false, .slice none 0 0, .slice none 0 0, .slice none 0 0] 29))
      replace HA := hide (HA.out.next hbb)
      replace HV4 := hide (HV4.out.next hbb)
      replace HV5 := hide (HV5.out.next hbb)
      replace HV6 := hide (HV6.out.next hbb)
      clear q7 hP hX hbb
      generalize (fnd l1 (flo l1 s).1).2 = B7 at *
      have q8 : ((u7.alloc (.cells #[.string ⟨#[]⟩, .int .i64 0, .int .i64 0, .int .i64 0, .string ⟨#[]⟩, .bool false, .slice none 0 0, .slice none 0 0, .slice none 0 0] 29)).setRow u7.heap.size c7).cell? ⟨b, off + i, none⟩ = some (.string s) := HCL.out _ HA.out.k
      go_wp2_with (refine wpList_storeRow rfl rfl u7.heap.size #[.string ⟨#[]⟩, .int .i64 0, .int .i64 0, .int .i64 0, .string ⟨#[]⟩, .bool false, .slice none 0 0, .slice none 0 0, .slice none 0 0] c7 29 rfl rfl HM7.out HI7.out HZ7.out HO7.out ?_)
      clear q8
      generalize (u7.alloc (.cells #[.string ⟨#[]⟩, .int .i64 0, .int .i64 0, .int .i64 0, .string ⟨#[]⟩, .bool false, .slice none 0 0, .slice none 0 0, .slice none 0 0] 29)).setRow u7.heap.size c7 = W7 at *
      refine heldStart (S := fun wy => Als w0 w N1 T1 g1 N2 T2 g2 l1 l2 wy ∧ Kp (fun q => q = g1 ∨ q = g2) W7 wy) (by kernel_rfl) ?_
      have hbd : Below W7.heap.size W7 W7.drew := Below.drew (Below.refl _ _)
      have hS : Als w0 w N1 T1 g1 N2 T2 g2 l1 l2 W7.drew ∧ Kp (fun q => q = g1 ∨ q = g2) W7 W7.drew := ⟨HA.out.next hbd, Kp.mono (Kp.of_below (S := fun _ => False) hbd) (fun _ _ e => e.elim)⟩
      clear hbd HA
      generalize W7.drew = W8 at *
      refine heldTake 0 _ rfl (by kernel_rfl) (by kernel_rfl) (by kernel_rfl) (fun _ _ _ h => h) rfl hS (fun wy hy => by first | (go_simp; done) | (go_simp; rfl) | rfl) ?_
      (try simp only [Act.put]); (try simp only [List.setIfInBounds_toArray, List.set_cons_zero, List.set_cons_succ])
      refine heldTake 1 _ rfl (by kernel_rfl) (by kernel_rfl) (by kernel_rfl) (fun _ _ _ h => h) rfl hS (fun wy hy => by first | (go_simp; done) | (go_simp; rfl) | rfl) ?_
      (try simp only [Act.put]); (try simp only [List.setIfInBounds_toArray, List.set_cons_zero, List.set_cons_succ])
      refine heldTake 2 (.bool false) rfl (by kernel_rfl) (by kernel_rfl) (by kernel_rfl) (fun _ _ _ h => h) rfl hS (fun wy hy => by first | (go_simp; done) | (cases B5 <;> rfl)) ?_
      (try simp only [Act.put]); (try simp only [List.setIfInBounds_toArray, List.set_cons_zero, List.set_cons_succ])
      refine heldTake 3 _ rfl (by kernel_rfl) (by kernel_rfl) (by kernel_rfl) (fun _ _ _ h => h) rfl hS (fun wy hy => by first | (go_simp; done) | (go_simp; rfl) | rfl) ?_
      (try simp only [Act.put]); (try simp only [List.setIfInBounds_toArray, List.set_cons_zero, List.set_cons_succ])
      refine heldTake 4 _ rfl (by kernel_rfl) (by kernel_rfl) (by kernel_rfl) (fun _ _ _ h => h) rfl hS (fun wy hy => by first | (go_simp; done) | (go_simp; rfl) | rfl) ?_
      (try simp only [Act.put]); (try simp only [List.setIfInBounds_toArray, List.set_cons_zero, List.set_cons_succ])
      refine heldTake 5 _ rfl (by kernel_rfl) (by kernel_rfl) (by kernel_rfl) (fun _ _ _ h => h) rfl hS (fun wy hy => by first | (go_simp; done) | (go_simp; rfl) | rfl) ?_
      (try simp only [Act.put]); (try simp only [List.setIfInBounds_toArray, List.set_cons_zero, List.set_cons_succ])
      refine heldTake 6 (.bool false) rfl (by kernel_rfl) (by kernel_rfl) (by kernel_rfl) (fun _ _ _ h => h) rfl hS (fun wy hy => by first | (go_simp; done) | (cases B7 <;> rfl)) ?_
      (try simp only [Act.put]); (try simp only [List.setIfInBounds_toArray, List.set_cons_zero, List.set_cons_succ])
      refine heldTake 7 _ rfl (by kernel_rfl) (by kernel_rfl) (by kernel_rfl) (fun _ _ _ h => h) rfl hS (fun wy hy => by first | (go_simp; done) | (go_simp; rfl) | rfl) ?_
      (try simp only [Act.put]); (try simp only [List.setIfInBounds_toArray, List.set_cons_zero, List.set_cons_succ])
      refine heldTake 8 _ rfl (by kernel_rfl) (by kernel_rfl) (by kernel_rfl) (fun _ _ _ h => h) rfl hS (fun wy hy => by first | (go_simp; done) | (go_simp; rfl) | rfl) ?_
      (try simp only [Act.put]); (try simp only [List.setIfInBounds_toArray, List.set_cons_zero, List.set_cons_succ])
      refine heldTake 9 _ rfl (by kernel_rfl) (by kernel_rfl) (by kernel_rfl) (fun _ _ _ h => h) rfl hS (fun wy hy => exec_aggAt (g := u4.heap.size) (off := 0) (cs := c4) HI.out HAG.out rfl rfl HZ94.out (fun j u hj => by rw [Nat.zero_add]; exact blk_cell (HV4.out.kp hy.2).x hj)) ?_
      (try simp only [Act.put]); (try simp only [List.setIfInBounds_toArray, List.set_cons_zero, List.set_cons_succ])
      refine heldTake 10 _ rfl (by kernel_rfl) (by kernel_rfl) (by kernel_rfl) (fun _ _ _ h => h) rfl hS (fun wy hy => exec_aggAt (g := u5.heap.size) (off := 0) (cs := c5) HI.out HAG.out rfl rfl HZ95.out (fun j u hj => by rw [Nat.zero_add]; exact blk_cell (HV5.out.kp hy.2).x hj)) ?_
      (try simp only [Act.put]); (try simp only [List.setIfInBounds_toArray, List.set_cons_zero, List.set_cons_succ])
      refine heldStep 11 rfl (by kernel_rfl) (fun K1 hK1 => ?_)
      go_simp
      refine (eqT_any c4 c5 (HV4.out.t _ hS.2) (HV5.out.t _ hS.2)).mono ?_
      rintro e v1 ⟨rfl, hb1⟩
      have hS1 : Als w0 w N1 T1 g1 N2 T2 g2 l1 l2 v1 ∧ Kp (fun q => q = g1 ∨ q = g2) W7 v1 := ⟨hS.1.next hb1, hS.2.trans (Kp.of_below (S := fun _ => False) hb1) (fun _ _ e => e.elim)⟩
      refine (Hid.out hK1) _ _ hS1 (fun hS2 => ?_)
      clear hK1 K1 hS
      have hS := hS2
      clear hS2
      (try simp only [Act.put]); (try simp only [List.setIfInBounds_toArray, List.set_cons_zero, List.set_cons_succ])
      clear hb1 hS1
      refine heldTake 12 _ rfl (by kernel_rfl) (by kernel_rfl) (by kernel_rfl) (fun _ _ _ h => h) rfl hS (fun wy hy => by first | (go_simp; done) | (go_simp; rfl) | rfl) ?_
      (try simp only [Act.put]); (try simp only [List.setIfInBounds_toArray, List.set_cons_zero, List.set_cons_succ])
      refine heldTake 13 _ rfl (by kernel_rfl) (by kernel_rfl) (by kernel_rfl) (fun _ _ _ h => h) rfl hS (fun wy hy => by first | (go_simp; done) | (go_simp; rfl) | rfl) ?_
      (try simp only [Act.put]); (try simp only [List.setIfInBounds_toArray, List.set_cons_zero, List.set_cons_succ])
      refine heldTake 14 _ rfl (by kernel_rfl) (by kernel_rfl) (by kernel_rfl) (fun _ _ _ h => h) rfl hS (fun wy hy => by first | (go_simp; done) | (go_simp; rfl) | rfl) ?_
      (try simp only [Act.put]); (try simp only [List.setIfInBounds_toArray, List.set_cons_zero, List.set_cons_succ])
      refine heldTake 15 _ rfl (by kernel_rfl) (by kernel_rfl) (by kernel_rfl) (fun _ _ _ h => h) rfl hS (fun wy hy => exec_aggAt (g := u6.heap.size) (off := 0) (cs := c6) HI.out HAG.out rfl rfl HZ96.out (fun j u hj => by rw [Nat.zero_add]; exact blk_cell (HV6.out.kp hy.2).x hj)) ?_
      (try simp only [Act.put]); (try simp only [List.setIfInBounds_toArray, List.set_cons_zero, List.set_cons_succ])
      refine heldTake 16 _ rfl (by kernel_rfl) (by kernel_rfl) (by kernel_rfl) (fun _ _ _ h => h) rfl hS (fun wy hy => exec_aggAt (g := u7.heap.size) (off := 0) (cs := c7) HI.out HAG.out rfl rfl HZ97.out (fun j u hj => by rw [Nat.zero_add]; exact blk_cell (HV7.out.kp hy.2).x hj)) ?_
      (try simp only [Act.put]); (try simp only [List.setIfInBounds_toArray, List.set_cons_zero, List.set_cons_succ])
      refine heldStep 17 rfl (by kernel_rfl) (fun K1 hK1 => ?_)
      go_simp
      refine (eqT_any c6 c7 (HV6.out.t _ hS.2) (HV7.out.t _ hS.2)).mono ?_
      rintro e v2 ⟨rfl, hb1⟩
      have hS1 : Als w0 w N1 T1 g1 N2 T2 g2 l1 l2 v2 ∧ Kp (fun q => q = g1 ∨ q = g2) W7 v2 := ⟨hS.1.next hb1, hS.2.trans (Kp.of_below (S := fun _ => False) hb1) (fun _ _ e => e.elim)⟩
      refine (Hid.out hK1) _ _ hS1 (fun hS2 => ?_)
      clear hK1 K1 hS
      have hS := hS2
      clear hS2
      (try simp only [Act.put]); (try simp only [List.setIfInBounds_toArray, List.set_cons_zero, List.set_cons_succ])
      clear hb1 hS1
      refine heldTake 18 _ rfl (by kernel_rfl) (by kernel_rfl) (by kernel_rfl) (fun _ _ _ h => h) rfl hS (fun wy hy => by first | (go_simp; done) | (go_simp; rfl) | rfl) ?_
      (try simp only [Act.put]); (try simp only [List.setIfInBounds_toArray, List.set_cons_zero, List.set_cons_succ])
      refine heldTake 19 _ rfl (by kernel_rfl) (by kernel_rfl) (by kernel_rfl) (fun _ _ _ h => h) rfl hS (fun wy hy => by first | (go_simp; done) | (go_simp; rfl) | rfl) ?_
      (try simp only [Act.put]); (try simp only [List.setIfInBounds_toArray, List.set_cons_zero, List.set_cons_succ])
      refine heldTake 20 _ rfl (by kernel_rfl) (by kernel_rfl) (by kernel_rfl) (fun _ _ _ h => h) rfl hS (fun wy hy => by first | (go_simp; done) | (go_simp; rfl) | rfl) ?_
      (try simp only [Act.put]); (try simp only [List.setIfInBounds_toArray, List.set_cons_zero, List.set_cons_succ])
      refine heldTake 21 _ rfl (by kernel_rfl) (by kernel_rfl) (by kernel_rfl) (fun _ _ _ h => h) rfl hS (fun wy hy => by first | (go_simp; done) | (go_simp; rfl) | rfl) ?_
      (try simp only [Act.put]); (try simp only [List.setIfInBounds_toArray, List.set_cons_zero, List.set_cons_succ])
      refine heldTake 22 _ rfl (by kernel_rfl) (by kernel_rfl) (by kernel_rfl) (fun _ _ _ h => h) rfl hS (fun wy hy => by first | (go_simp; done) | (go_simp; rfl) | rfl) ?_
      (try simp only [Act.put]); (try simp only [List.setIfInBounds_toArray, List.set_cons_zero, List.set_cons_succ])
      refine heldTake 23 _ rfl (by kernel_rfl) (by kernel_rfl) (by kernel_rfl) (fun _ _ _ h => h) rfl hS (fun wy hy => by first | (go_simp; done) | (go_simp; rfl) | rfl) ?_
      (try simp only [Act.put]); (try simp only [List.setIfInBounds_toArray, List.set_cons_zero, List.set_cons_succ])
      refine heldTake 24 _ rfl (by kernel_rfl) (by kernel_rfl) (by kernel_rfl) (fun _ _ _ h => h) rfl hS (fun wy hy => by first | (go_simp; done) | (go_simp; rfl) | rfl) ?_
      (try simp only [Act.put]); (try simp only [List.setIfInBounds_toArray, List.set_cons_zero, List.set_cons_succ])
      refine heldTake 25 _ rfl (by kernel_rfl) (by kernel_rfl) (by kernel_rfl) (fun _ _ _ h => h) rfl hS (fun wy hy => by have h0 := HCL.out wy hy.1.k; first | (go_simp; done) | (go_simp; rfl) | rfl) ?_
      (try simp only [Act.put]); (try simp only [List.setIfInBounds_toArray, List.set_cons_zero, List.set_cons_succ])
      refine heldTake 27 _ rfl (by kernel_rfl) (by kernel_rfl) (by kernel_rfl) (fun _ _ _ h => h) rfl hS (fun wy hy => by first | (go_simp; done) | (go_simp; rfl) | rfl) ?_
      (try simp only [Act.put]); (try simp only [List.setIfInBounds_toArray, List.set_cons_zero, List.set_cons_succ])
      refine heldTake 28 _ rfl (by kernel_rfl) (by kernel_rfl) (by kernel_rfl) (fun _ _ _ h => h) rfl hS (fun wy hy => by first | (go_simp; done) | (go_simp; rfl) | rfl) ?_
      (try simp only [Act.put]); (try simp only [List.setIfInBounds_toArray, List.set_cons_zero, List.set_cons_succ])
      refine heldTake 29 _ rfl (by kernel_rfl) (by kernel_rfl) (by kernel_rfl) (fun _ _ _ h => h) rfl hS (fun wy hy => by first | (go_simp; done) | (go_simp; rfl) | rfl) ?_
      (try simp only [Act.put]); (try simp only [List.setIfInBounds_toArray, List.set_cons_zero, List.set_cons_succ])
      refine heldTake 30 _ rfl (by kernel_rfl) (by kernel_rfl) (by kernel_rfl) (fun _ _ _ h => h) rfl hS (fun wy hy => by first | (go_simp; done) | (go_simp; rfl) | rfl) ?_
      (try simp only [Act.put]); (try simp only [List.setIfInBounds_toArray, List.set_cons_zero, List.set_cons_succ])
      refine heldTake 31 _ rfl (by kernel_rfl) (by kernel_rfl) (by kernel_rfl) (fun _ _ _ h => h) rfl hS (fun wy hy => by have h0 := HCL.out wy hy.1.k; first | (go_simp; done) | (go_simp; rfl) | rfl) ?_
      (try simp only [Act.put]); (try simp only [List.setIfInBounds_toArray, List.set_cons_zero, List.set_cons_succ])
      refine heldStep 26 rfl (by kernel_rfl) (fun K1 hK1 => ?_)
      go_simp
      refine (tst_filled hS.1.t1 HO.out hS.1.b H0.out H641.out s HSZ.out).mono ?_
      rintro e v3 ⟨F1, rfl, hP⟩
      have HF1 := hide hP.out.1
      have hS1 : Als w0 w N1 T1 g1 N2 T2 g2 l1 l2 v3 ∧ Kp (fun q => q = g1 ∨ q = g2) W7 v3 := ⟨hS.1.one hP.out.2.2 hP.out.2.1 H12.out H0.out, hS.2.trans hP.out.2.2 (fun _ _ e => .inl e)⟩
      refine (Hid.out hK1) _ _ hS1 (fun hS2 => ?_)
      clear hK1 K1 hS
      have hS := hS2
      clear hS2
      (try simp only [Act.put]); (try simp only [List.setIfInBounds_toArray, List.set_cons_zero, List.set_cons_succ])
      clear hP hS1
      refine heldStep 32 rfl (by kernel_rfl) (fun K1 hK1 => ?_)
      go_simp
      have H02 : Hid (w0.heap.size ≤ N2) := by have h1 := H0.out; have h2 := H12.out; have h3 := hS.1.t1.g; show _ ≤ _; omega
      refine (tst_filled hS.1.t2 HO.out hS.1.b H02.out H642.out s HSZ.out).mono ?_
      rintro e v4 ⟨F2, rfl, hP⟩
      rw [← HE3.out F1 F2 HF1.out hP.out.1]
      have hS1 : Als w0 w N1 T1 g1 N2 T2 g2 l1 l2 v4 ∧ Kp (fun q => q = g1 ∨ q = g2) W7 v4 := ⟨hS.1.two hP.out.2.2 hP.out.2.1 H12.out H0.out, hS.2.trans hP.out.2.2 (fun _ _ e => .inr e)⟩
      refine (Hid.out hK1) _ _ hS1 (fun hS2 => ?_)
      clear hK1 K1 hS
      have hS := hS2
      clear hS2
      (try simp only [Act.put]); (try simp only [List.setIfInBounds_toArray, List.set_cons_zero, List.set_cons_succ])
      clear hP hS1 HF1 HE3
      generalize memb F1 s = fb at *
      refine heldTake 33 (.bool false) rfl (by kernel_rfl) (by kernel_rfl) (by kernel_rfl) (fun _ _ _ h => h) rfl hS (fun wy hy => by first | (go_simp; done) | (cases fb <;> rfl)) ?_
      (try simp only [Act.put]); (try simp only [List.setIfInBounds_toArray, List.set_cons_zero, List.set_cons_succ])
      refine heldTake 34 _ rfl (by kernel_rfl) (by kernel_rfl) (by kernel_rfl) (fun _ _ _ h => h) rfl hS (fun wy hy => by first | (go_simp; done) | (go_simp; rfl) | rfl) ?_
      (try simp only [Act.put]); (try simp only [List.setIfInBounds_toArray, List.set_cons_zero, List.set_cons_succ])
      refine heldDone (by kernel_rfl) ?_
      have HA2 := hide hS.1
      clear hS HV4 HV5 HV6 HV7
      go_wp2_with fail
      go_roundw
      case rel => exact ⟨i + 1, by omega, by go_num, HA2⟩
      case measure => simp [intOf]; omega
    · have g1' : ¬ (i : Int) < (ns.length : Int) := by omega
      clear HN
      go_wp2_with fail
      go_ret
      exact ⟨rfl, HA.out⟩
end
section
open Go.RowKit Go
/-! ### The reference's copies -/
set_option maxRecDepth 1000000 in
set_option maxHeartbeats 1000000 in
theorem copyF_wid (w : World) (v : Value) (xs : List Fd) (hv : FSl w v xs) (hn : xs.length ≤ 2199023255552) : Calls Tryz.prog 24 #[v] w fun e w' => ∃ v', e = .returned v' ∧ Hid (FSl w' v' xs ∧ Below w.heap.size w w' ∧ ∀ q, v'.ownBlock = some q → w.heap.size ≤ q) := by
  have HV := hide hv
  obtain ⟨⟨a, cap, rfl, hcap, hform⟩, hmax⟩ := hv
  have HN := hide hn
  have HC : Hid ((xs.map fdc) = [] ∨ ∃ b off, a = some ⟨b, off, none⟩ ∧ ∀ (i : Nat) (d : Array Value), (xs.map fdc)[i]? = some d → ∀ j u, d[j]? = some u → w.cell? ⟨b, off + i * 5 + j, none⟩ = some u) := by
    rcases hform with h | ⟨b, off, e, h⟩
    · exact .inl (by rw [h]; rfl)
    · refine .inr ⟨b, off, e, fun i d hd j u hu => ?_⟩
      rw [List.getElem?_map] at hd
      cases hx : xs[i]? with
      | none => rw [hx] at hd; cases hd
      | some x =>
        rw [hx] at hd
        injection hd with hd
        subst hd
        obtain ⟨c, ⟨hcx, _⟩, hcell⟩ := h i x hx
        subst hcx
        exact hcell j u hu
  have HL : Hid (∀ c ∈ xs.map fdc, c.size = 5) := fun c hc => by obtain ⟨x, _, rfl⟩ := List.mem_map.1 hc; rfl
  have H1 : Hid (∀ u ∈ gfl (xs.map fdc), u.oneCell' = true) := fun u hu => by
    obtain ⟨c, hc, hu⟩ := List.mem_flatMap.1 hu
    obtain ⟨x, _, rfl⟩ := List.mem_map.1 hc
    simp only [fdc, List.mem_cons, List.not_mem_nil, or_false] at hu
    rcases hu with rfl | rfl | rfl | rfl | rfl <;> rfl
  have HC0 := hide hcap.2
  have HLE : Hid ((xs.map fdc).length = xs.length) := by show _ = _; rw [List.length_map]
  have HAP : Hid (∀ (ops : Array Oper) (rest : List Oper) (o : Oper) (ac : Act) (Q : Exit → Act → World → Prop) (s y : Operand), o.guard = none → o.op = .call { callee := .builtin .append, args := #[s, y], argTypes := #[25, 25] } → ac.eval s = .slice none 0 0 → ac.eval y = .slice a xs.length cap → (∀ v' w', w'.ownsRow w.heap.size 80 5 v' (xs.map fdc).length (gfl (xs.map fdc)) → Below w.heap.size w w' → wpList Tryz.prog ops Q rest (ac.put o.dst v') w') → wpList Tryz.prog ops Q (o :: rest) ac w) := fun ops rest o ac Q s y h1 h2 h3 h4 h5 => append_allB infoF3 Tryz.underlying25 rfl (by decide) h1 h2 h3 (by rw [HLE.out]; exact h4) HL.out H1.out (by rw [HLE.out]; have := HN.out; omega) (by rw [HLE.out, Nat.zero_add]; exact Nat.le_trans (Nat.mul_le_mul_right _ HN.out) (by decide)) HC0.out HC.out h5
  clear hform hcap hn
  go_enter Tryz.func24, Tryz.ntmps24
  go_wp2_with (refine HAP.out _ _ _ _ _ _ _ rfl rfl rfl rfl ?_; intro v' w' ho hb)
  go_ret
  refine ⟨_, rfl, ?_, hb, fun q e => (ho.lt q e).1⟩
  exact own_gsl (xs := xs) ho HL.out HLE.out HV.out.max (fun i x c hx hc => by
    rw [List.getElem?_map, hx] at hc
    injection hc with hc
    subst hc
    rcases HV.out.form with ⟨_, _, _, _, h | ⟨b, off, _, h⟩⟩
    · rw [h] at hx; cases hx
    · obtain ⟨c', hP, _⟩ := h i x hx
      exact ⟨rfl, hP.2⟩)

set_option maxRecDepth 1000000 in
set_option maxHeartbeats 1000000 in
theorem copyC_wid (w : World) (v : Value) (xs : List Cz) (hv : CSl w v xs) (hn : xs.length ≤ 4398046511104) : Calls Tryz.prog 25 #[v] w fun e w' => ∃ v', e = .returned v' ∧ Hid (CSl w' v' xs ∧ Below w.heap.size w w' ∧ ∀ q, v'.ownBlock = some q → w.heap.size ≤ q) := by
  have HV := hide hv
  obtain ⟨⟨a, cap, rfl, hcap, hform⟩, hmax⟩ := hv
  have HN := hide hn
  have HC : Hid ((xs.map czc) = [] ∨ ∃ b off, a = some ⟨b, off, none⟩ ∧ ∀ (i : Nat) (d : Array Value), (xs.map czc)[i]? = some d → ∀ j u, d[j]? = some u → w.cell? ⟨b, off + i * 2 + j, none⟩ = some u) := by
    rcases hform with h | ⟨b, off, e, h⟩
    · exact .inl (by rw [h]; rfl)
    · refine .inr ⟨b, off, e, fun i d hd j u hu => ?_⟩
      rw [List.getElem?_map] at hd
      cases hx : xs[i]? with
      | none => rw [hx] at hd; cases hd
      | some x =>
        rw [hx] at hd
        injection hd with hd
        subst hd
        obtain ⟨c, ⟨hcx, _⟩, hcell⟩ := h i x hx
        subst hcx
        exact hcell j u hu
  have HL : Hid (∀ c ∈ xs.map czc, c.size = 2) := fun c hc => by obtain ⟨x, _, rfl⟩ := List.mem_map.1 hc; rfl
  have H1 : Hid (∀ u ∈ gfl (xs.map czc), u.oneCell' = true) := fun u hu => by
    obtain ⟨c, hc, hu⟩ := List.mem_flatMap.1 hu
    obtain ⟨x, _, rfl⟩ := List.mem_map.1 hc
    simp only [czc, List.mem_cons, List.not_mem_nil, or_false] at hu
    rcases hu with rfl | rfl <;> rfl
  have HC0 := hide hcap.2
  have HLE : Hid ((xs.map czc).length = xs.length) := by show _ = _; rw [List.length_map]
  have HAP : Hid (∀ (ops : Array Oper) (rest : List Oper) (o : Oper) (ac : Act) (Q : Exit → Act → World → Prop) (s y : Operand), o.guard = none → o.op = .call { callee := .builtin .append, args := #[s, y], argTypes := #[26, 26] } → ac.eval s = .slice none 0 0 → ac.eval y = .slice a xs.length cap → (∀ v' w', w'.ownsRow w.heap.size 82 2 v' (xs.map czc).length (gfl (xs.map czc)) → Below w.heap.size w w' → wpList Tryz.prog ops Q rest (ac.put o.dst v') w') → wpList Tryz.prog ops Q (o :: rest) ac w) := fun ops rest o ac Q s y h1 h2 h3 h4 h5 => append_allB infoC3 Tryz.underlying26 rfl (by decide) h1 h2 h3 (by rw [HLE.out]; exact h4) HL.out H1.out (by rw [HLE.out]; have := HN.out; omega) (by rw [HLE.out, Nat.zero_add]; exact Nat.le_trans (Nat.mul_le_mul_right _ HN.out) (by decide)) HC0.out HC.out h5
  clear hform hcap hn
  go_enter Tryz.func25, Tryz.ntmps25
  go_wp2_with (refine HAP.out _ _ _ _ _ _ _ rfl rfl rfl rfl ?_; intro v' w' ho hb)
  go_ret
  refine ⟨_, rfl, ?_, hb, fun q e => (ho.lt q e).1⟩
  exact own_gsl (xs := xs) ho HL.out HLE.out HV.out.max (fun i x c hx hc => by
    rw [List.getElem?_map, hx] at hc
    injection hc with hc
    subst hc
    rcases HV.out.form with ⟨_, _, _, _, h | ⟨b, off, _, h⟩⟩
    · rw [h] at hx; cases hx
    · obtain ⟨c', hP, _⟩ := h i x hx
      exact ⟨rfl, hP.2⟩)

set_option maxRecDepth 1000000 in
set_option maxHeartbeats 1000000 in
theorem copyS_wid (w : World) (v : Value) (xs : List ByteArray) (hv : SSl w v xs) (hn : xs.length ≤ 8796093022208) : Calls Tryz.prog 26 #[v] w fun e w' => ∃ v', e = .returned v' ∧ Hid (SSl w' v' xs ∧ Below w.heap.size w w' ∧ w'.ownsRow w.heap.size 9 1 v' xs.length (gfl (xs.map (fun s => #[Value.string s])))) := by
  have HV := hide hv
  obtain ⟨⟨a, cap, rfl, hcap, hform⟩, hmax, _⟩ := hv
  have HN := hide hn
  have HC : Hid ((xs.map (fun s => #[Value.string s])) = [] ∨ ∃ b off, a = some ⟨b, off, none⟩ ∧ ∀ (i : Nat) (d : Array Value), (xs.map (fun s => #[Value.string s]))[i]? = some d → ∀ j u, d[j]? = some u → w.cell? ⟨b, off + i * 1 + j, none⟩ = some u) := by
    rcases hform with h | ⟨b, off, e, h⟩
    · exact .inl (by rw [h]; rfl)
    · refine .inr ⟨b, off, e, fun i d hd j u hu => ?_⟩
      rw [List.getElem?_map] at hd
      cases hx : xs[i]? with
      | none => rw [hx] at hd; cases hd
      | some x =>
        rw [hx] at hd
        injection hd with hd
        subst hd
        rcases j with _ | j
        · have e1 : u = .string x := by simpa using hu.symm
          subst e1
          rw [Nat.mul_one, Nat.add_zero]
          exact h i x hx
        · simp at hu
  have HL : Hid (∀ c ∈ xs.map (fun s => #[Value.string s]), c.size = 1) := fun c hc => by obtain ⟨x, _, rfl⟩ := List.mem_map.1 hc; rfl
  have H1 : Hid (∀ u ∈ gfl (xs.map (fun s => #[Value.string s])), u.oneCell' = true) := fun u hu => by
    obtain ⟨c, hc, hu⟩ := List.mem_flatMap.1 hu
    obtain ⟨x, _, rfl⟩ := List.mem_map.1 hc
    simp only [List.mem_cons, List.not_mem_nil, or_false] at hu
    rw [hu]; rfl
  have HC0 := hide hcap.2
  have HLE : Hid ((xs.map (fun s => #[Value.string s])).length = xs.length) := by show _ = _; rw [List.length_map]
  have HAP : Hid (∀ (ops : Array Oper) (rest : List Oper) (o : Oper) (ac : Act) (Q : Exit → Act → World → Prop) (s y : Operand), o.guard = none → o.op = .call { callee := .builtin .append, args := #[s, y], argTypes := #[27, 27] } → ac.eval s = .slice none 0 0 → ac.eval y = .slice a xs.length cap → (∀ v' w', w'.ownsRow w.heap.size 9 1 v' (xs.map (fun s => #[Value.string s])).length (gfl (xs.map (fun s => #[Value.string s]))) → Below w.heap.size w w' → wpList Tryz.prog ops Q rest (ac.put o.dst v') w') → wpList Tryz.prog ops Q (o :: rest) ac w) := fun ops rest o ac Q s y h1 h2 h3 h4 h5 => append_allB infoS3 Tryz.underlying27 rfl (by decide) h1 h2 h3 (by rw [HLE.out]; exact h4) HL.out H1.out (by rw [HLE.out]; have := HN.out; omega) (by rw [HLE.out, Nat.zero_add]; exact Nat.le_trans (Nat.mul_le_mul_right _ HN.out) (by decide)) HC0.out HC.out h5
  clear hform hcap hn
  go_enter Tryz.func26, Tryz.ntmps26
  go_wp2_with (refine HAP.out _ _ _ _ _ _ _ rfl rfl rfl rfl ?_; intro v' w' ho hb)
  go_ret
  refine ⟨_, rfl, ?_, hb, by rw [← HLE.out]; exact ho⟩
  have hg := own_gsl (P := fun _ s c => c = #[Value.string s]) (xs := xs) ho HL.out HLE.out HV.out.max (fun i x c hx hc => by
    rw [List.getElem?_map, hx] at hc
    injection hc with hc
    exact hc.symm)
  obtain ⟨⟨a', cap', hv', hc', hf'⟩, hm'⟩ := hg
  refine ⟨⟨a', cap', hv', hc', ?_⟩, hm', HV.out.size⟩
  rcases hf' with h | ⟨b, off, e, h⟩
  · exact .inl h
  · refine .inr ⟨b, off, e, fun j s hs => ?_⟩
    obtain ⟨c, rfl, hcell⟩ := h j s hs
    have := hcell 0 (.string s) rfl
    rw [Nat.mul_one, Nat.add_zero] at this
    exact this
end
section
open Go.RowKit Go
/-- What CopyType has in hand: its argument, its answer, the copy. -/
structure Cpw (w : World) (ta tc : Array Value) (wx : World) : Prop where
  a : wx.heap[w.heap.size]? = some (.cells ta 29 (0, 0))
  r : wx.heap[w.heap.size + 1]? = some (.cells #[.string ⟨#[]⟩, .int .i64 0, .int .i64 0, .int .i64 0, .string ⟨#[]⟩, .bool false, .slice none 0 0, .slice none 0 0, .slice none 0 0] 29 (0, 0))
  c : wx.heap[w.heap.size + 2]? = some (.cells tc 29 (0, 0))
  b : Below w.heap.size w wx
theorem Cpw.next {w wx wy : World} {ta tc : Array Value} (h : Cpw w ta tc wx) (hb : Below wx.heap.size wx wy) : Cpw w ta tc wy := ⟨(hb.block _ (blk_lt h.a)).trans h.a, (hb.block _ (blk_lt h.r)).trans h.r, (hb.block _ (blk_lt h.c)).trans h.c, h.b.trans (hb.mono h.b.size)⟩
theorem Cpw.set {w wx : World} {ta tc : Array Value} (h : Cpw w ta tc wx) (j : Nat) (v : Value) : Cpw w ta (tc.setIfInBounds j v) (wx.setCell ⟨w.heap.size + 2, j, none⟩ v) := ⟨blk_other j v h.a (by omega), blk_other j v h.r (by omega), blk_set j v h.c, h.b.trans (((Kp.refl (fun q => q = w.heap.size + 2) wx).setCell _ _ (fun _ => rfl)).below h.b.size (fun q e => by omega))⟩
theorem Cpw.start (w : World) (ta : Array Value) : Cpw w ta ta (((w.alloc (.cells ta 29)).alloc (.cells #[.string ⟨#[]⟩, .int .i64 0, .int .i64 0, .int .i64 0, .string ⟨#[]⟩, .bool false, .slice none 0 0, .slice none 0 0, .slice none 0 0] 29)).alloc (.cells ta 29)) := by
  have z : ∀ (V : World) (o : Obj), (V.alloc o).heap.size = V.heap.size + 1 := fun V o => by simp
  have h1 := heap_alloc_new w (.cells ta 29)
  have h2 := heap_alloc_new (w.alloc (.cells ta 29)) (.cells #[.string ⟨#[]⟩, .int .i64 0, .int .i64 0, .int .i64 0, .string ⟨#[]⟩, .bool false, .slice none 0 0, .slice none 0 0, .slice none 0 0] 29)
  have h3 := heap_alloc_new ((w.alloc (.cells ta 29)).alloc (.cells #[.string ⟨#[]⟩, .int .i64 0, .int .i64 0, .int .i64 0, .string ⟨#[]⟩, .bool false, .slice none 0 0, .slice none 0 0, .slice none 0 0] 29)) (.cells ta 29)
  simp only [z] at h2 h3
  have b1 := below_alloc4 w (.cells ta 29)
  have b2 := b1.alloc b1.size (.cells #[.string ⟨#[]⟩, .int .i64 0, .int .i64 0, .int .i64 0, .string ⟨#[]⟩, .bool false, .slice none 0 0, .slice none 0 0, .slice none 0 0] 29)
  exact ⟨blk_alloc _ (blk_alloc _ h1), blk_alloc _ h2, h3, b2.alloc b2.size _⟩
set_option maxRecDepth 1000000 in
set_option maxHeartbeats 4000000 in
theorem copyT_wid (w : World) (t : Tp) (c : Array Value) (hc : Tpi w t c) (hf1 : t.fs.length ≤ 2199023255552) (hc1 : t.cs.length ≤ 4398046511104) (hw1 : t.ws.length ≤ 8796093022208) : Calls Tryz.prog 13 #[.agg c] w fun e w' => ∃ c', e = .returned (.agg c') ∧ Hid (Tpi w' t c' ∧ Below w.heap.size w w' ∧ ∀ (S : Nat → Prop) wy, (∀ q, S q → q < w.heap.size) → Kp S w' wy → Tpi wy t c') := by
  have HBD := hide hc.b
  obtain ⟨⟨vf, vc, vw, rfl, hF, hC, hW⟩, _⟩ := hc
  have HF0 := hide hF
  have HC0 := hide hC
  have HW0 := hide hW
  obtain ⟨⟨af, cf, rfl, _, _⟩, _⟩ := hF
  obtain ⟨⟨ac, cc, rfl, _, _⟩, _⟩ := hC
  obtain ⟨⟨aw, cw, rfl, _, _⟩, _, _⟩ := hW
  have HN : Hid (t.fs.length ≤ 2199023255552 ∧ t.cs.length ≤ 4398046511104 ∧ t.ws.length ≤ 8796093022208) := ⟨hf1, hc1, hw1⟩
  unfold tpc
  have HX := hide (Cpw.start w #[.string t.n, .int .i64 t.k, .int .i64 t.lo, .int .i64 t.hi, .string t.r.n, .bool t.r.z, .slice af t.fs.length cf, .slice ac t.cs.length cc, .slice aw t.ws.length cw])
  have HIT := hide infoTp
  have HAT : Hid (∀ w, (isAgg 29).run Tryz.prog w = .ok true w) := aggTp
  have HTC : Hid (∀ wy, Below w.heap.size w wy → ∀ wz, wz = (w.alloc (.cells #[.string t.n, .int .i64 t.k, .int .i64 t.lo, .int .i64 t.hi, .string t.r.n, .bool t.r.z, .slice af t.fs.length cf, .slice ac t.cs.length cc, .slice aw t.ws.length cw] 29)).alloc (.cells #[.string ⟨#[]⟩, .int .i64 0, .int .i64 0, .int .i64 0, .string ⟨#[]⟩, .bool false, .slice none 0 0, .slice none 0 0, .slice none 0 0] 29) → ∀ j u, (#[.string t.n, .int .i64 t.k, .int .i64 t.lo, .int .i64 t.hi, .string t.r.n, .bool t.r.z, .slice af t.fs.length cf, .slice ac t.cs.length cc, .slice aw t.ws.length cw] : Array Value)[j]? = some u → wz.cell? ⟨w.heap.size, 0 + j, none⟩ = some u) := fun _ _ wz hz j u hu => by rw [hz, Nat.zero_add]; exact blk_cell (blk_alloc _ (heap_alloc_new w _)) hu
  clear hf1 hc1 hw1
  go_enter Tryz.func13, Tryz.ntmps13
  go_upto_region 2 with (refine wpList_aggAt rfl rfl HIT.out HAT.out w.heap.size 0 #[.string t.n, .int .i64 t.k, .int .i64 t.lo, .int .i64 t.hi, .string t.r.n, .bool t.r.z, .slice af t.fs.length cf, .slice ac t.cs.length cc, .slice aw t.ws.length cw] rfl rfl (HTC.out w (Below.refl _ _) _ rfl) ?_)
  clear HTC
  rw [show w.heap.size + 1 + 1 = w.heap.size + 2 from rfl]
  generalize ((w.alloc (.cells #[.string t.n, .int .i64 t.k, .int .i64 t.lo, .int .i64 t.hi, .string t.r.n, .bool t.r.z, .slice af t.fs.length cf, .slice ac t.cs.length cc, .slice aw t.ws.length cw] 29)).alloc (.cells #[.string ⟨#[]⟩, .int .i64 0, .int .i64 0, .int .i64 0, .string ⟨#[]⟩, .bool false, .slice none 0 0, .slice none 0 0, .slice none 0 0] 29)).alloc (.cells #[.string t.n, .int .i64 t.k, .int .i64 t.lo, .int .i64 t.hi, .string t.r.n, .bool t.r.z, .slice af t.fs.length cf, .slice ac t.cs.length cc, .slice aw t.ws.length cw] 29) = w0 at *
  have q6 : w0.cell? ⟨w.heap.size, 6, none⟩ = some (.slice af t.fs.length cf) := blk_cell (j := 6) HX.out.a rfl
  go_wp2_with fail
  refine (copyF_wid w0 _ t.fs (HF0.out.mv (keep_below HX.out.b)) HN.out.1).mono ?_
  rintro e w1 ⟨vF, rfl, hP⟩
  have hbF := hP.out.2.1
  have HF1 := hide hP.out.1
  have HFq : Hid (∀ q, vF.ownBlock = some q → w.heap.size + 3 ≤ q) := fun q e => by have h1 := hP.out.2.2 q e; have h2 := blk_lt HX.out.c; omega
  replace HX := hide (HX.out.next hbF)
  obtain ⟨⟨fa, fc, hvF, _, _⟩, _⟩ := hP.out.1
  subst hvF
  have o6 : w1.cell? ⟨w.heap.size + 2, 6, none⟩ = some (.slice af t.fs.length cf) := blk_cell (j := 6) HX.out.c rfl
  have z6 := blk_frozen 6 HX.out.c
  have hkF : Kp (fun q => q = w.heap.size + 2) w1 (w1.setCell ⟨w.heap.size + 2, 6, none⟩ (.slice fa t.fs.length fc)) := (Kp.refl _ w1).setCell _ _ (fun _ => rfl)
  have HX2 : Hid (Cpw w #[.string t.n, .int .i64 t.k, .int .i64 t.lo, .int .i64 t.hi, .string t.r.n, .bool t.r.z, .slice af t.fs.length cf, .slice ac t.cs.length cc, .slice aw t.ws.length cw] #[.string t.n, .int .i64 t.k, .int .i64 t.lo, .int .i64 t.hi, .string t.r.n, .bool t.r.z, .slice fa t.fs.length fc, .slice ac t.cs.length cc, .slice aw t.ws.length cw] (w1.setCell ⟨w.heap.size + 2, 6, none⟩ (.slice fa t.fs.length fc))) := HX.out.set 6 (.slice fa t.fs.length fc)
  replace HF1 := hide (FSl.kps HF1.out hkF (fun q e e2 => by have h1 := HFq.out q e; have h2 : q = w.heap.size + 2 := e2; omega))
  clear hP HX q6 hkF hbF
  go_upto_region 3 with fail
  clear o6 z6
  generalize w1.setCell ⟨w.heap.size + 2, 6, none⟩ (.slice fa t.fs.length fc) = w2 at *
  have HX := HX2
  clear HX2
  have q7 : w2.cell? ⟨w.heap.size, 7, none⟩ = some (.slice ac t.cs.length cc) := blk_cell (j := 7) HX.out.a rfl
  go_wp2_with fail
  refine (copyC_wid w2 _ t.cs (HC0.out.mv (keep_below HX.out.b)) HN.out.2.1).mono ?_
  rintro e w3 ⟨vC, rfl, hP⟩
  have hbC := hP.out.2.1
  have HC1 := hide hP.out.1
  have HCq : Hid (∀ q, vC.ownBlock = some q → w.heap.size + 3 ≤ q) := fun q e => by have h1 := hP.out.2.2 q e; have h2 := blk_lt HX.out.c; omega
  replace HX := hide (HX.out.next hbC)
  obtain ⟨⟨ca, cd, hvC, _, _⟩, _⟩ := hP.out.1
  subst hvC
  have o7 : w3.cell? ⟨w.heap.size + 2, 7, none⟩ = some (.slice ac t.cs.length cc) := blk_cell (j := 7) HX.out.c rfl
  have z7 := blk_frozen 7 HX.out.c
  have hkC : Kp (fun q => q = w.heap.size + 2) w3 (w3.setCell ⟨w.heap.size + 2, 7, none⟩ (.slice ca t.cs.length cd)) := (Kp.refl _ w3).setCell _ _ (fun _ => rfl)
  have HX2 : Hid (Cpw w #[.string t.n, .int .i64 t.k, .int .i64 t.lo, .int .i64 t.hi, .string t.r.n, .bool t.r.z, .slice af t.fs.length cf, .slice ac t.cs.length cc, .slice aw t.ws.length cw] #[.string t.n, .int .i64 t.k, .int .i64 t.lo, .int .i64 t.hi, .string t.r.n, .bool t.r.z, .slice fa t.fs.length fc, .slice ca t.cs.length cd, .slice aw t.ws.length cw] (w3.setCell ⟨w.heap.size + 2, 7, none⟩ (.slice ca t.cs.length cd))) := HX.out.set 7 (.slice ca t.cs.length cd)
  replace HF1 := hide (FSl.kps (FSl.mv HF1.out (keep_below hbC)) hkC (fun q e e2 => by have h1 := HFq.out q e; have h2 : q = w.heap.size + 2 := e2; omega))
  replace HC1 := hide (CSl.kps HC1.out hkC (fun q e e2 => by have h1 := HCq.out q e; have h2 : q = w.heap.size + 2 := e2; omega))
  clear hP HX q7 hkC hbC
  go_upto_region 4 with fail
  clear o7 z7
  generalize w3.setCell ⟨w.heap.size + 2, 7, none⟩ (.slice ca t.cs.length cd) = w4 at *
  have HX := HX2
  clear HX2
  have q8 : w4.cell? ⟨w.heap.size, 8, none⟩ = some (.slice aw t.ws.length cw) := blk_cell (j := 8) HX.out.a rfl
  go_wp2_with fail
  refine (copyS_wid w4 _ t.ws (HW0.out.move (keep_below HX.out.b)) HN.out.2.2).mono ?_
  rintro e w5 ⟨vS, rfl, hP⟩
  have hbS := hP.out.2.1
  have HS1 := hide hP.out.1
  have HSq : Hid (∀ q, vS.ownBlock = some q → w.heap.size + 3 ≤ q) := fun q e => by have h1 := (fun q e => (hP.out.2.2.lt q e).1) q e; have h2 := blk_lt HX.out.c; omega
  replace HX := hide (HX.out.next hbS)
  obtain ⟨⟨wa, wc, hvS, _, _⟩, _, _⟩ := hP.out.1
  subst hvS
  have o8 : w5.cell? ⟨w.heap.size + 2, 8, none⟩ = some (.slice aw t.ws.length cw) := blk_cell (j := 8) HX.out.c rfl
  have z8 := blk_frozen 8 HX.out.c
  have hkS : Kp (fun q => q = w.heap.size + 2) w5 (w5.setCell ⟨w.heap.size + 2, 8, none⟩ (.slice wa t.ws.length wc)) := (Kp.refl _ w5).setCell _ _ (fun _ => rfl)
  have HX2 : Hid (Cpw w #[.string t.n, .int .i64 t.k, .int .i64 t.lo, .int .i64 t.hi, .string t.r.n, .bool t.r.z, .slice af t.fs.length cf, .slice ac t.cs.length cc, .slice aw t.ws.length cw] #[.string t.n, .int .i64 t.k, .int .i64 t.lo, .int .i64 t.hi, .string t.r.n, .bool t.r.z, .slice fa t.fs.length fc, .slice ca t.cs.length cd, .slice wa t.ws.length wc] (w5.setCell ⟨w.heap.size + 2, 8, none⟩ (.slice wa t.ws.length wc))) := HX.out.set 8 (.slice wa t.ws.length wc)
  replace HF1 := hide (FSl.kps (FSl.mv HF1.out (keep_below hbS)) hkS (fun q e e2 => by have h1 := HFq.out q e; have h2 : q = w.heap.size + 2 := e2; omega))
  replace HC1 := hide (CSl.kps (CSl.mv HC1.out (keep_below hbS)) hkS (fun q e e2 => by have h1 := HCq.out q e; have h2 : q = w.heap.size + 2 := e2; omega))
  replace HS1 := hide (SSl.kps HS1.out hkS (fun q e e2 => by have h1 := HSq.out q e; have h2 : q = w.heap.size + 2 := e2; omega))
  clear hP HX q8 hkS hbS
  go_upto_region 5 with fail
  clear o8 z8
  generalize w5.setCell ⟨w.heap.size + 2, 8, none⟩ (.slice wa t.ws.length wc) = w6 at *
  have HX := HX2
  clear HX2
  have HR := hide HX.out.r
  have HI2 : Hid ((Tryz.prog.info? 29).map (·.size) = some (#[.string t.n, .int .i64 t.k, .int .i64 t.lo, .int .i64 t.hi, .string t.r.n, .bool t.r.z, .slice fa t.fs.length fc, .slice ca t.cs.length cd, .slice wa t.ws.length wc] : Array Value).size) := infoTp
  have HA1 : Hid ((#[.string t.n, .int .i64 t.k, .int .i64 t.lo, .int .i64 t.hi, .string t.r.n, .bool t.r.z, .slice fa t.fs.length fc, .slice ca t.cs.length cd, .slice wa t.ws.length wc] : Array Value).all (·.oneCell') = true) := by show _ = _; simp [Value.oneCell']
  have HTC : Hid (∀ j u, (#[.string t.n, .int .i64 t.k, .int .i64 t.lo, .int .i64 t.hi, .string t.r.n, .bool t.r.z, .slice fa t.fs.length fc, .slice ca t.cs.length cd, .slice wa t.ws.length wc] : Array Value)[j]? = some u → w6.cell? ⟨w.heap.size + 2, 0 + j, none⟩ = some u) := fun j u hu => by rw [Nat.zero_add]; exact blk_cell HX.out.c hu
  go_wp2_with (first
    | (refine wpList_aggAt rfl rfl HIT.out HAT.out (w.heap.size + 2) 0 #[.string t.n, .int .i64 t.k, .int .i64 t.lo, .int .i64 t.hi, .string t.r.n, .bool t.r.z, .slice fa t.fs.length fc, .slice ca t.cs.length cd, .slice wa t.ws.length wc] rfl rfl HTC.out ?_)
    | (refine wpList_storeRow rfl rfl (w.heap.size + 1) #[.string ⟨#[]⟩, .int .i64 0, .int .i64 0, .int .i64 0, .string ⟨#[]⟩, .bool false, .slice none 0 0, .slice none 0 0, .slice none 0 0] #[.string t.n, .int .i64 t.k, .int .i64 t.lo, .int .i64 t.hi, .string t.r.n, .bool t.r.z, .slice fa t.fs.length fc, .slice ca t.cs.length cd, .slice wa t.ws.length wc] 29 rfl rfl HR.out HI2.out rfl HA1.out ?_))
  have hkr := row_kp w6 (w.heap.size + 1) #[.string t.n, .int .i64 t.k, .int .i64 t.lo, .int .i64 t.hi, .string t.r.n, .bool t.r.z, .slice fa t.fs.length fc, .slice ca t.cs.length cd, .slice wa t.ws.length wc]
  have hn1 : ∀ {v : Value} {S : Nat → Prop}, (∀ q, S q → q < w.heap.size + 3) → (∀ q, v.ownBlock = some q → w.heap.size + 3 ≤ q) → ∀ q, v.ownBlock = some q → ¬ S q := fun h1 h2 q e e2 => by have := h1 q e2; have := h2 q e; omega
  have hone : ∀ q, q = w.heap.size + 1 → q < w.heap.size + 3 := fun q e => by omega
  have hkp : ∀ (S : Nat → Prop) wy, (∀ q, S q → q < w.heap.size) → Kp S (w6.setRow (w.heap.size + 1) #[.string t.n, .int .i64 t.k, .int .i64 t.lo, .int .i64 t.hi, .string t.r.n, .bool t.r.z, .slice fa t.fs.length fc, .slice ca t.cs.length cd, .slice wa t.ws.length wc]) wy → Tpi wy t #[.string t.n, .int .i64 t.k, .int .i64 t.lo, .int .i64 t.hi, .string t.r.n, .bool t.r.z, .slice fa t.fs.length fc, .slice ca t.cs.length cd, .slice wa t.ws.length wc] := fun S wy hg hk => by
    have h3 : ∀ q, S q → q < w.heap.size + 3 := fun q e => by have := hg q e; omega
    exact ⟨⟨_, _, _, rfl, FSl.kps (FSl.kps HF1.out hkr (hn1 hone HFq.out)) hk (hn1 h3 HFq.out), CSl.kps (CSl.kps HC1.out hkr (hn1 hone HCq.out)) hk (hn1 h3 HCq.out), SSl.kps (SSl.kps HS1.out hkr (hn1 hone HSq.out)) hk (hn1 h3 HSq.out)⟩, HBD.out⟩
  exact bodyPost_ret (results_cell_row rfl _ _ _ _ _ _ _ rfl (row_same HR.out) Tryz.underlying29 rfl infoTp) rfl ⟨_, rfl, hkp (fun _ => False) _ (fun _ e => e.elim) (Kp.refl _ _), HX.out.b.trans (hkr.below HX.out.b.size (fun q e => by omega)), hkp⟩
theorem copyT_any (w : World) (t : Tp) (c : Array Value) (hc : Tpi w t c) (hf1 : t.fs.length ≤ 1000) (hc1 : t.cs.length ≤ 1000) (hw1 : t.ws.length ≤ 1000) : Calls Tryz.prog 13 #[.agg c] w fun e w' => ∃ c', e = .returned (.agg c') ∧ Hid (Tpi w' t c' ∧ Below w.heap.size w w' ∧ ∀ (S : Nat → Prop) wy, (∀ q, S q → q < w.heap.size) → Kp S w' wy → Tpi wy t c') := copyT_wid w t c hc (by omega) (by omega) (by omega)
end
section
open Go.RowKit Go
set_option maxRecDepth 1000000 in
set_option maxHeartbeats 4000000 in
theorem copyTs_any (w : World) (v : Value) (l : List Tp) (hv : TSl w v l) (hS : Shrt l) (hl : l.length ≤ 100000) : Calls Tryz.prog 7 #[v] w fun e w' => ∃ v', e = .returned v' ∧ Hid (TSl w' v' l ∧ Below w.heap.size w w') := by
  have HSH := hide hS
  have hmax := hv.max
  obtain ⟨⟨a, cap, rfl, _, hform⟩, _⟩ := hv
  have HF := hide hform
  clear hform hS
  have HX := hide (Opw.start w)
  go_enter Tryz.func7, Tryz.ntmps7
  go_wp2_with fail
  go_loopw [3, 4] (fun vo vi wx => ∃ (i : Nat) (a0 : Option Addr) (n0 c0 : Nat) (L : List (Array Value)), i ≤ l.length ∧ vo = .slice a0 n0 c0 ∧ vi = .int .i64 (i : Nat) ∧ Hid (Opw w (.slice a0 n0 c0) L (l.take i) wx)) (fun _ vi _ => l.length - (intOf vi).toNat)
  case atStart => exact ⟨0, none, 0, 0, [], by omega, rfl, rfl, HX⟩
  case round =>
    obtain ⟨i, a0, n0, c0, L, hi, rfl, rfl, HXi⟩ := hrel
    clear HX
    by_cases hlt : i < l.length
    · have g1 : (i : Int) < (l.length : Int) := by omega
      obtain ⟨t, ht⟩ : ∃ t, l[i]? = some t := ⟨l[i], List.getElem?_eq_getElem hlt⟩
      obtain ⟨b, off, rfl, hcc⟩ := HF.out.resolve_left (fun h => by rw [h] at hlt; simp at hlt)
      obtain ⟨c, hc, hcell⟩ := hcc i t ht
      have HC := hide hc
      obtain ⟨⟨vf, vc, vw, rfl, ⟨⟨af, cf, rfl, -, -⟩, -⟩, ⟨⟨ac, cc, rfl, -, -⟩, -⟩, ⟨⟨aw, cw, rfl, -, -⟩, -, -⟩⟩, -⟩ := hc
      unfold tpc at hcell HC
      have HCL : Hid (∀ j u, (#[.string t.n, .int .i64 t.k, .int .i64 t.lo, .int .i64 t.hi, .string t.r.n, .bool t.r.z, .slice af t.fs.length cf, .slice ac t.cs.length cc, .slice aw t.ws.length cw] : Array Value)[j]? = some u → wr.cell? ⟨b, off + i * 9 + j, none⟩ = some u) := fun j u hj => keep_below HXi.out.b _ _ (hcell j u hj)
      have HC2 : Hid (Tpi wr t #[.string t.n, .int .i64 t.k, .int .i64 t.lo, .int .i64 t.hi, .string t.r.n, .bool t.r.z, .slice af t.fs.length cf, .slice ac t.cs.length cc, .slice aw t.ws.length cw]) := HC.out.move (keep_below HXi.out.b)
      have HSI := hide (HSH.out t (List.mem_of_getElem? ht))
      have HTK := hide (takeP l i t ht)
      have HLL : Hid (L.length ≤ 1000000) := by
        have h1 := HXi.out.n
        rw [List.length_take] at h1
        show _ ≤ _
        omega
      have HIT := hide infoTp
      have HAT : Hid (∀ w, (isAgg 29).run Tryz.prog w = .ok true w) := aggTp
      clear hcc hcell ht HF HC
      go_wp2_with (refine wpList_aggAt rfl rfl HIT.out HAT.out b (off + i * 9) #[.string t.n, .int .i64 t.k, .int .i64 t.lo, .int .i64 t.hi, .string t.r.n, .bool t.r.z, .slice af t.fs.length cf, .slice ac t.cs.length cc, .slice aw t.ws.length cw] rfl rfl HCL.out ?_)
      refine (copyT_any wr t _ HC2.out HSI.out.1 HSI.out.2.1 HSI.out.2.2).mono ?_
      rintro e w3 ⟨c', rfl, hP⟩
      have hb3 := hP.out.2.1
      have hb4 := below_alloc4 w3 (.cells c' 29)
      have HX4 := hide ((HXi.out.next hb3).next hb4)
      have HK4 : Hid (Tpk (w3.alloc (.cells c' 29)) (fun q => q < w.heap.size ∨ (Value.slice a0 n0 c0).ownBlock = some q) t c') := fun wy hk => hP.out.2.2 _ wy (fun q e => by
        rcases e with e | e
        · exact Nat.lt_of_lt_of_le e HXi.out.b.size
        · exact (HXi.out.o.lt q e).2) ((Kp.mono (Kp.of_below (S := fun _ => False) hb4) (fun _ _ e => e.elim)).trans hk (fun _ _ e => e))
      have HZ9 := hide hP.out.1.size9
      have H1C : Hid (∀ u ∈ c'.toList, u.oneCell' = true) := fun u hu => by
        have h := hP.out.1.all1
        rw [Array.all_eq_true_iff_forall_mem] at h
        exact h u (by simpa using hu)
      have HAL : Hid (w.heap.size ≤ (w3.alloc (.cells c' 29)).heap.size) := HX4.out.b.size
      have HAP : Hid (∀ (ops : Array Oper) (rest : List Oper) (o : Oper) (ac : Act) (Q : Exit → Act → World → Prop) (s y : Operand), o.guard = none → o.op = .call { callee := .builtin .append, args := #[s, y], argTypes := #[22, 22] } → ac.eval s = .slice a0 n0 c0 → ac.eval y = .slice (some ⟨w3.heap.size, 0, none⟩) 1 1 → (∀ v' w', Opw w v' (L ++ [c']) (l.take (i + 1)) w' → wpList Tryz.prog ops Q rest (ac.put o.dst v') w') → wpList Tryz.prog ops Q (o :: rest) ac (w3.alloc (.cells c' 29))) := fun ops rest o ac Q s y h1 h2 h3 h4 h5 =>
        append_g infoTp3 Tryz.underlying22 rfl (by decide) (by decide) h1 h2 h3 HX4.out.o h4 (heap_alloc_new w3 _) HZ9.out H1C.out HLL.out HAL.out (fun v' w' h6 h7 h8 => h5 v' w' (by rw [HTK.out]; exact HX4.out.app h7 h6 h8 HZ9.out HK4.out))
      clear hP hb3 hb4 HCL HC2 HXi
      go_wp2_with (first
        | (refine row1 infoTp3 Tryz.underlying22 (by decide) (by decide) rfl rfl rfl (c := c') rfl HZ9.out ?_)
        | (refine HAP.out _ _ _ _ _ _ _ rfl rfl rfl rfl ?_; intro v' w' hr'))
      obtain ⟨a2, c2, hv0, _⟩ := own_formG hr'.o
      subst hv0
      have HR' := hide hr'
      clear hr'
      go_wp2_with fail
      go_roundw
      case rel => exact ⟨i + 1, _, _, _, _, by omega, rfl, by go_num, HR'⟩
      case measure => simp [intOf]; omega
    · have g1 : ¬ (i : Int) < (l.length : Int) := by omega
      have HX2 : Hid (Opw w (.slice a0 n0 c0) L l wr) := by have h := HXi.out; rw [List.take_of_length_le (by omega)] at h; exact h
      clear HXi HF
      go_wp2_with fail
      go_ret
      exact ⟨_, rfl, HX2.out.tsl (by omega), HX2.out.b⟩
end
section
open Go.RowKit Go
set_option maxRecDepth 1000000 in
set_option maxHeartbeats 4000000 in
theorem copyTs2_any (w : World) (v : Value) (l : List Tp) (hv : TSl w v l) (hS : Shrt l) (hl : l.length ≤ 100000) : Calls Tryz.prog 7 #[v] w fun e w' => ∃ a n c L, e = .returned (.slice a n c) ∧ Hid (Opw w (.slice a n c) L l w') := by
  have HSH := hide hS
  obtain ⟨⟨a, cap, rfl, _, hform⟩, _⟩ := hv
  have HF := hide hform
  clear hform hS
  have HX := hide (Opw.start w)
  go_enter Tryz.func7, Tryz.ntmps7
  go_wp2_with fail
  go_loopw [3, 4] (fun vo vi wx => ∃ (i : Nat) (a0 : Option Addr) (n0 c0 : Nat) (L : List (Array Value)), i ≤ l.length ∧ vo = .slice a0 n0 c0 ∧ vi = .int .i64 (i : Nat) ∧ Hid (Opw w (.slice a0 n0 c0) L (l.take i) wx)) (fun _ vi _ => l.length - (intOf vi).toNat)
  case atStart => exact ⟨0, none, 0, 0, [], by omega, rfl, rfl, HX⟩
  case round =>
    obtain ⟨i, a0, n0, c0, L, hi, rfl, rfl, HXi⟩ := hrel
    clear HX
    by_cases hlt : i < l.length
    · have g1 : (i : Int) < (l.length : Int) := by omega
      obtain ⟨t, ht⟩ : ∃ t, l[i]? = some t := ⟨l[i], List.getElem?_eq_getElem hlt⟩
      obtain ⟨b, off, rfl, hcc⟩ := HF.out.resolve_left (fun h => by rw [h] at hlt; simp at hlt)
      obtain ⟨c, hc, hcell⟩ := hcc i t ht
      have HC := hide hc
      obtain ⟨⟨vf, vc, vw, rfl, ⟨⟨af, cf, rfl, -, -⟩, -⟩, ⟨⟨ac, cc, rfl, -, -⟩, -⟩, ⟨⟨aw, cw, rfl, -, -⟩, -, -⟩⟩, -⟩ := hc
      unfold tpc at hcell HC
      have HCL : Hid (∀ j u, (#[.string t.n, .int .i64 t.k, .int .i64 t.lo, .int .i64 t.hi, .string t.r.n, .bool t.r.z, .slice af t.fs.length cf, .slice ac t.cs.length cc, .slice aw t.ws.length cw] : Array Value)[j]? = some u → wr.cell? ⟨b, off + i * 9 + j, none⟩ = some u) := fun j u hj => keep_below HXi.out.b _ _ (hcell j u hj)
      have HC2 : Hid (Tpi wr t #[.string t.n, .int .i64 t.k, .int .i64 t.lo, .int .i64 t.hi, .string t.r.n, .bool t.r.z, .slice af t.fs.length cf, .slice ac t.cs.length cc, .slice aw t.ws.length cw]) := HC.out.move (keep_below HXi.out.b)
      have HSI := hide (HSH.out t (List.mem_of_getElem? ht))
      have HTK := hide (takeP l i t ht)
      have HLL : Hid (L.length ≤ 1000000) := by
        have h1 := HXi.out.n
        rw [List.length_take] at h1
        show _ ≤ _
        omega
      have HIT := hide infoTp
      have HAT : Hid (∀ w, (isAgg 29).run Tryz.prog w = .ok true w) := aggTp
      clear hcc hcell ht HF HC
      go_wp2_with (refine wpList_aggAt rfl rfl HIT.out HAT.out b (off + i * 9) #[.string t.n, .int .i64 t.k, .int .i64 t.lo, .int .i64 t.hi, .string t.r.n, .bool t.r.z, .slice af t.fs.length cf, .slice ac t.cs.length cc, .slice aw t.ws.length cw] rfl rfl HCL.out ?_)
      refine (copyT_any wr t _ HC2.out HSI.out.1 HSI.out.2.1 HSI.out.2.2).mono ?_
      rintro e w3 ⟨c', rfl, hP⟩
      have hb3 := hP.out.2.1
      have hb4 := below_alloc4 w3 (.cells c' 29)
      have HX4 := hide ((HXi.out.next hb3).next hb4)
      have HK4 : Hid (Tpk (w3.alloc (.cells c' 29)) (fun q => q < w.heap.size ∨ (Value.slice a0 n0 c0).ownBlock = some q) t c') := fun wy hk => hP.out.2.2 _ wy (fun q e => by
        rcases e with e | e
        · exact Nat.lt_of_lt_of_le e HXi.out.b.size
        · exact (HXi.out.o.lt q e).2) ((Kp.mono (Kp.of_below (S := fun _ => False) hb4) (fun _ _ e => e.elim)).trans hk (fun _ _ e => e))
      have HZ9 := hide hP.out.1.size9
      have H1C : Hid (∀ u ∈ c'.toList, u.oneCell' = true) := fun u hu => by
        have h := hP.out.1.all1
        rw [Array.all_eq_true_iff_forall_mem] at h
        exact h u (by simpa using hu)
      have HAL : Hid (w.heap.size ≤ (w3.alloc (.cells c' 29)).heap.size) := HX4.out.b.size
      have HAP : Hid (∀ (ops : Array Oper) (rest : List Oper) (o : Oper) (ac : Act) (Q : Exit → Act → World → Prop) (s y : Operand), o.guard = none → o.op = .call { callee := .builtin .append, args := #[s, y], argTypes := #[22, 22] } → ac.eval s = .slice a0 n0 c0 → ac.eval y = .slice (some ⟨w3.heap.size, 0, none⟩) 1 1 → (∀ v' w', Opw w v' (L ++ [c']) (l.take (i + 1)) w' → wpList Tryz.prog ops Q rest (ac.put o.dst v') w') → wpList Tryz.prog ops Q (o :: rest) ac (w3.alloc (.cells c' 29))) := fun ops rest o ac Q s y h1 h2 h3 h4 h5 =>
        append_g infoTp3 Tryz.underlying22 rfl (by decide) (by decide) h1 h2 h3 HX4.out.o h4 (heap_alloc_new w3 _) HZ9.out H1C.out HLL.out HAL.out (fun v' w' h6 h7 h8 => h5 v' w' (by rw [HTK.out]; exact HX4.out.app h7 h6 h8 HZ9.out HK4.out))
      clear hP hb3 hb4 HCL HC2 HXi
      go_wp2_with (first
        | (refine row1 infoTp3 Tryz.underlying22 (by decide) (by decide) rfl rfl rfl (c := c') rfl HZ9.out ?_)
        | (refine HAP.out _ _ _ _ _ _ _ rfl rfl rfl rfl ?_; intro v' w' hr'))
      obtain ⟨a2, c2, hv0, _⟩ := own_formG hr'.o
      subst hv0
      have HR' := hide hr'
      clear hr'
      go_wp2_with fail
      go_roundw
      case rel => exact ⟨i + 1, _, _, _, _, by omega, rfl, by go_num, HR'⟩
      case measure => simp [intOf]; omega
    · have g1 : ¬ (i : Int) < (l.length : Int) := by omega
      have HX2 : Hid (Opw w (.slice a0 n0 c0) L l wr) := by have h := HXi.out; rw [List.take_of_length_le (by omega)] at h; exact h
      clear HXi HF
      go_wp2_with fail
      go_ret
      exact ⟨a0, n0, c0, rfl, L, HX2.out⟩
structure Tuw (w : World) (v : Value) (L : List (Array Value)) (ts : List Tp) (wx : World) : Prop where
  o : wx.ownsRow w.heap.size 29 9 v L.length (gfl L)
  n : L.length = ts.length
  z : ∀ c ∈ L, c.size = 9
  k : ∀ (i : Nat) (t : Tp) (c : Array Value), ts[i]? = some t → L[i]? = some c → Tpi w t c
  b : Below w.heap.size w wx
theorem Tuw.start (w : World) : Tuw w (.slice none 0 0) [] [] w := ⟨World.ownsRow_nil _ _ _ _, rfl, fun _ h => by simp at h, fun i _ _ h => by simp at h, Below.refl _ _⟩
theorem Tuw.next {w wx wy : World} {v : Value} {L : List (Array Value)} {ts : List Tp} (h : Tuw w v L ts wx) (hb : Below wx.heap.size wx wy) : Tuw w v L ts wy :=
  ⟨(Kp.of_below (S := fun _ => False) hb).owns h.o (fun _ _ e => e), h.n, h.z, h.k, h.b.trans (hb.mono h.b.size)⟩
theorem Tuw.tsl {w wx : World} {v : Value} {L : List (Array Value)} {ts : List Tp} (h : Tuw w v L ts wx) (hm : ts.length ≤ 140737488351232) : TSl wx v ts := own_gsl h.o h.z h.n hm (fun i t c h1 h2 => (h.k i t c h1 h2).move (keep_below h.b))
theorem Tuw.law {w wr : World} {a0 : Option Addr} {n0 c0 : Nat} {L : List (Array Value)} {ts : List Tp} {t : Tp} {c : Array Value} (h : Tuw w (.slice a0 n0 c0) L ts wr) (ht : Tpi w t c) (hlen : L.length ≤ 1000000) {ops : Array Oper} {rest : List Oper} {o : Oper} {ac : Act} {Q : Exit → Act → World → Prop} {s y : Operand} (h1 : o.guard = none) (h2 : o.op = .call { callee := .builtin .append, args := #[s, y], argTypes := #[22, 22] }) (h3 : ac.eval s = .slice a0 n0 c0) (h4 : ac.eval y = .slice (some ⟨wr.heap.size, 0, none⟩) 1 1)
    (h5 : ∀ a9 n9 c9 w', Hid (Tuw w (.slice a9 n9 c9) (L ++ [c]) (ts ++ [t]) w') → wpList Tryz.prog ops Q rest (ac.put o.dst (.slice a9 n9 c9)) w') : wpList Tryz.prog ops Q (o :: rest) ac (wr.alloc (.cells c 29)) := by
  have hb1 := below_alloc4 wr (.cells c 29)
  have hx := h.next hb1
  have hg := heap_alloc_new wr (.cells c 29)
  have h1c : ∀ u ∈ c.toList, u.oneCell' = true := fun u hu => by
    have h := ht.all1
    rw [Array.all_eq_true_iff_forall_mem] at h
    exact h u (by simpa using hu)
  refine append_g infoTp3 Tryz.underlying22 rfl (by decide) (by decide) h1 h2 h3 hx.o h4 hg ht.size9 h1c hlen hx.b.size (fun v' w' h6 h7 h8 => ?_)
  obtain ⟨a9, c9, hv9, _⟩ := own_formG h6
  subst hv9
  refine h5 _ _ _ w' ⟨by rw [List.length_append]; exact h6, by rw [List.length_append, List.length_append, hx.n]; rfl, fun d hd => ?_, fun i u d e1 e2 => ?_, ?_⟩
  · rcases List.mem_append.1 hd with hd | hd
    · exact hx.z d hd
    · rw [List.mem_singleton.1 hd]; exact ht.size9
  · by_cases hi : i < ts.length
    · rw [List.getElem?_append_left hi] at e1
      rw [List.getElem?_append_left (by rw [hx.n]; exact hi)] at e2
      exact hx.k i u d e1 e2
    · have e : i = ts.length := by
        have := (List.getElem?_eq_some_iff.1 e1).1
        rw [List.length_append, List.length_singleton] at this
        omega
      subst e
      rw [List.getElem?_append_right (Nat.le_refl _), Nat.sub_self] at e1
      rw [← hx.n, List.getElem?_append_right (Nat.le_refl _), Nat.sub_self] at e2
      have f1 : t = u := by simpa using e1
      have f2 : c = d := by simpa using e2
      rw [← f1, ← f2]
      exact ht
  · exact hx.b.trans ((kp_grown h7).below hx.b.size (fun q e => (hx.o.lt q e).1))

/-! ### Rows of types, taken apart and joined -/
theorem tsl_cells {w : World} {v : Value} {l : List Tp} (h : TSl w v l) : ∃ (a : Option Addr) (cap : Nat) (M : List (Array Value)), v = .slice a l.length cap ∧ l.length ≤ cap ∧ (a = none → cap = 0) ∧ M.length = l.length ∧ (∀ (i : Nat) (t : Tp) (c : Array Value), l[i]? = some t → M[i]? = some c → Tpi w t c) ∧ (M = [] ∨ ∃ b off, a = some ⟨b, off, none⟩ ∧ ∀ (i : Nat) (c : Array Value), M[i]? = some c → ∀ j u, c[j]? = some u → w.cell? ⟨b, off + i * 9 + j, none⟩ = some u) := by
  obtain ⟨⟨a, cap, hv, hn, hform⟩, _⟩ := h
  rcases hform with e | ⟨b, off, e, hc⟩
  · subst e
    exact ⟨a, cap, [], hv, hn.1, hn.2, rfl, fun i t c h => by simp at h, .inl rfl⟩
  · have hf : ∀ i : Fin l.length, ∃ c, Tpi w l[i] c ∧ ∀ j u, c[j]? = some u → w.cell? ⟨b, off + i * 9 + j, none⟩ = some u := fun i => hc i l[i] (List.getElem?_eq_getElem i.isLt)
    refine ⟨a, cap, List.ofFn (fun i => Classical.choose (hf i)), hv, hn.1, hn.2, by simp, fun i t c h1 h2 => ?_, .inr ⟨b, off, e, fun i c h2 => ?_⟩⟩
    · obtain ⟨hi, h3⟩ := List.getElem?_eq_some_iff.1 h1
      have h4 := (Classical.choose_spec (hf ⟨i, hi⟩)).1
      have h5 : Classical.choose (hf ⟨i, hi⟩) = c := by
        obtain ⟨_, h6⟩ := List.getElem?_eq_some_iff.1 h2
        rw [← h6]
        simp
      rw [h5] at h4
      rw [← h3]
      exact h4
    · obtain ⟨hi0, h6⟩ := List.getElem?_eq_some_iff.1 h2
      have hi : i < l.length := by simpa using hi0
      have h4 := (Classical.choose_spec (hf ⟨i, hi⟩)).2
      have h5 : Classical.choose (hf ⟨i, hi⟩) = c := by
        rw [← h6]
        simp
      rw [h5] at h4
      exact h4
theorem tpi_one {w : World} {t : Tp} {c : Array Value} (h : Tpi w t c) : ∀ u ∈ c.toList, u.oneCell' = true := fun u hu => by
  have h := h.all1
  rw [Array.all_eq_true_iff_forall_mem] at h
  exact h u (by simpa using hu)
theorem tsl_drop {w : World} {a : Option Addr} {cap n : Nat} {l : List Tp} (h : TSl w (.slice a n cap) l) (k : Nat) (hk : k ≤ l.length) : ∃ a2, TSl w (.slice a2 (l.length - k) (cap - k)) (l.drop k) ∧ ((a = none ∧ a2 = none) ∨ ∃ ad, a = some ad ∧ ((cap = k ∧ a2 = some ad) ∨ (cap ≠ k ∧ a2 = some (ad.add (k * 9))))) := by
  obtain ⟨⟨a', cap', hv, hn, hform⟩, hmx⟩ := h
  injection hv with e1 e2 e3
  subst e1
  subst e3
  have hl : (l.drop k).length = l.length - k := List.length_drop
  cases a with
  | none =>
    have := hn.2 rfl
    refine ⟨none, ⟨⟨none, _, by rw [hl], ⟨by omega, fun _ => by omega⟩, .inl ?_⟩, by omega⟩, .inl ⟨rfl, rfl⟩⟩
    exact List.length_eq_zero_iff.1 (by omega)
  | some ad =>
    by_cases hck : cap = k
    · exact ⟨some ad, ⟨⟨_, _, by rw [hl], ⟨by omega, fun e => by cases e⟩, .inl (List.length_eq_zero_iff.1 (by omega))⟩, by omega⟩, .inr ⟨ad, rfl, .inl ⟨hck, rfl⟩⟩⟩
    refine ⟨some (ad.add (k * 9)), ⟨⟨_, _, by rw [hl], ⟨by omega, fun e => by cases e⟩, ?_⟩, by omega⟩, .inr ⟨ad, rfl, .inr ⟨hck, rfl⟩⟩⟩
    rcases hform with e | ⟨b, off, e, hc⟩
    · exact .inl (by rw [e]; simp)
    · refine .inr ⟨b, off + k * 9, ?_, fun i x hx => ?_⟩
      · rw [Option.some.inj e, addrO]
      · rw [List.getElem?_drop] at hx
        obtain ⟨c, h1, h2⟩ := hc _ x hx
        refine ⟨c, h1, fun j u hu => ?_⟩
        have h3 := h2 j u hu
        rw [show off + (k + i) * 9 + j = off + k * 9 + i * 9 + j by omega] at h3
        exact h3
theorem cells_take {w w2 : World} {a : Option Addr} {l : List Tp} {M : List (Array Value)} (hn : M.length = l.length) (hT : ∀ (i : Nat) (t : Tp) (c : Array Value), l[i]? = some t → M[i]? = some c → Tpi w t c) (hc : M = [] ∨ ∃ b off, a = some ⟨b, off, none⟩ ∧ ∀ (i : Nat) (c : Array Value), M[i]? = some c → ∀ j u, c[j]? = some u → w.cell? ⟨b, off + i * 9 + j, none⟩ = some u) (hb : Below w.heap.size w w2) (k : Nat) (hk : k ≤ l.length) :
    (M.take k).length = k ∧ (∀ (i : Nat) (t : Tp) (c : Array Value), (l.take k)[i]? = some t → (M.take k)[i]? = some c → Tpi w2 t c) ∧ (∀ c ∈ M.take k, c.size = 9) ∧ (∀ u ∈ gfl (M.take k), u.oneCell' = true) ∧ (M.take k = [] ∨ ∃ b off, a = some ⟨b, off, none⟩ ∧ ∀ (i : Nat) (d : Array Value), (M.take k)[i]? = some d → ∀ j u, d[j]? = some u → w2.cell? ⟨b, off + i * 9 + j, none⟩ = some u) := by
  have hm : ∀ c ∈ M.take k, ∃ t, Tpi w t c := fun c h => by
    obtain ⟨i, hi, e⟩ := List.getElem_of_mem (List.mem_of_mem_take h)
    exact ⟨l[i]'(by omega), hT i _ c (List.getElem?_eq_getElem _) (by rw [List.getElem?_eq_getElem hi, e])⟩
  have ht : ∀ (i : Nat) (c : Array Value), (M.take k)[i]? = some c → M[i]? = some c := fun i c h => by
    rw [List.getElem?_take] at h
    split at h
    · exact h
    · cases h
  refine ⟨by rw [List.length_take]; omega, fun i t c h1 h2 => (hT i t c ?_ (ht i c h2)).move (keep_below hb), fun c h => by obtain ⟨t, h⟩ := hm c h; exact h.size9, fun u hu => ?_, ?_⟩
  · rw [List.getElem?_take] at h1
    split at h1
    · exact h1
    · cases h1
  · obtain ⟨c, h1, h2⟩ := List.mem_flatMap.1 hu
    obtain ⟨t, h⟩ := hm c h1
    exact tpi_one h u h2
  · rcases hc with e | ⟨b, off, e, hc⟩
    · exact .inl (by rw [e]; simp)
    · exact .inr ⟨b, off, e, fun i d hd j u hu => keep_below hb _ _ (hc i d (ht i d hd) j u hu)⟩
/-- A row of the call's own and another one behind it: what it reads as. -/
theorem opw_cat {w w1 w2 : World} {v v' : Value} {L M : List (Array Value)} {l m : List Tp} (h : Opw w v L l w1) (hg : w1.grownBy w2 v.ownBlock) (ho : w2.ownsRow w.heap.size 29 9 v' (L.length + M.length) (gfl (L ++ M))) (hM : M.length = m.length) (hT : ∀ (i : Nat) (t : Tp) (c : Array Value), m[i]? = some t → M[i]? = some c → Tpi w t c) (h9 : ∀ c ∈ M, c.size = 9) (hm : (l ++ m).length ≤ 140737488351232) : TSl w2 v' (l ++ m) ∧ Below w.heap.size w w2 := by
  have hb : Below w.heap.size w w2 := h.b.trans ((kp_grown hg).below h.b.size (fun q e => (h.o.lt q e).1))
  refine ⟨own_gsl (L := L ++ M) (by rw [List.length_append]; exact ho) (fun c hc => ?_) (by rw [List.length_append, List.length_append, h.n, hM]) hm (fun i t c e1 e2 => ?_), hb⟩
  · rcases List.mem_append.1 hc with hc | hc
    · exact h.z c hc
    · exact h9 c hc
  · by_cases hi : i < l.length
    · rw [List.getElem?_append_left hi] at e1
      rw [List.getElem?_append_left (by rw [h.n]; exact hi)] at e2
      exact h.k i t c e1 e2 w2 ((kp_grown hg).mono (fun q _ e => .inr e))
    · rw [List.getElem?_append_right (by omega)] at e1
      rw [List.getElem?_append_right (by rw [h.n]; omega), h.n] at e2
      exact (hT _ t c e1 e2).move (keep_below hb)
/-- append of a whole row, in a region that draws. -/
theorem step_append_gs {ops : Array Oper} {o : Oper} {a : Act} {w : World} {K : Act → World → Prop} {Q : Exit → Act → World → Prop} {E : Prop} {S T : TypeId} {z : Value} {k by' : Nat} (hI : (Tryz.prog.info? T).map (fun i => (i.zero, i.size, i.bytes)) = some (some z, k, by')) (hS : Tryz.prog.underlying S = some (.slice T)) (hzs : z.cells.size = k) (hk : 0 < k) (hby : by' ≤ 1000) (hgd : o.guard = none) {s x : Operand}
    (ho : o.op = .call { callee := .builtin .append, args := #[s, x], argTypes := #[S, S] }) {B : Nat} {v : Value} {L M : List (Array Value)} {ad : Option Addr} {c : Nat} (hs : a.eval s = v) (hown : w.ownsRow B T k v L.length (gfl L)) (hx : a.eval x = .slice ad M.length c) (hl : ∀ c ∈ M, c.size = k) (h1 : ∀ u ∈ gfl M, u.oneCell' = true) (hlen : L.length + M.length ≤ 1000000) (hc0 : ad = none → c = 0)
    (hc : M = [] ∨ ∃ b off, ad = some ⟨b, off, none⟩ ∧ ∀ (i : Nat) (d : Array Value), M[i]? = some d → ∀ j u, d[j]? = some u → w.cell? ⟨b, off + i * k + j, none⟩ = some u) (hbase : B ≤ w.heap.size)
    (hK : ∀ v' w', w'.ownsRow B T k v' (L.length + M.length) (gfl (L ++ M)) → w.grownBy w' v.ownBlock → K (a.put o.dst v') w') : if Region.wanted o (yielded ops a.tmps) = true then Oper.wp Tryz.prog o a w K Q else E := by
  have hw : Region.wanted o (yielded ops a.tmps) = true := by simp [Region.wanted, hgd]
  rw [if_pos hw]
  obtain ⟨i, hi, hz0, hz1, hz2⟩ := info_ex hI
  have hb : (L.length + M.length) * by' ≤ 140737488355328 := by
    have : (L.length + M.length) * by' ≤ 1000000 * 1000 := Nat.mul_le_mul (by omega) hby
    omega
  cases ad with
  | none =>
    have h0 : M = [] := hc.resolve_right (fun ⟨_, _, e, _⟩ => by cases e)
    subst h0
    have e0 := hc0 rfl
    subst e0
    have hrun := run_append_owned_none (P := Tryz.prog) (w := w) B S o.type T i k hS hi v L.length (gfl L) hown
    unfold Oper.wp
    simp only [List.length_nil] at hx
    simp [execOp, ho, resolve, invoke, builtin, hs, hx, hrun, Result.andThen]
    exact hK v w (by simpa using hown) ⟨rfl, rfl, rfl, Nat.le_refl _, fun _ _ _ => rfl⟩
  | some ad =>
    have hnews : ∀ j u, (gfl M)[j]? = some u → w.cell? (ad.add j) = some u := fun j u hu => by
      rcases hc with e | ⟨b, off, e, hc⟩
      · rw [e] at hu; cases hu
      · have e' := Option.some.inj e
        subst e'
        rw [addrO]
        exact gfl_cells2 hk hl hc j u hu
    obtain ⟨v', w', hrun, r1, r2, _⟩ := run_append_own (P := Tryz.prog) w B S o.type T i z k by' hS hi hz0 hz1 hz2 hzs hk v L.length (gfl L) hown ad M.length c (gfl M) (gfl_len hl) hnews h1 (by unfold maxLen; omega) hb hbase
    unfold Oper.wp
    simp [execOp, ho, resolve, invoke, builtin, hs, hx, hrun, Result.andThen]
    exact hK v' w' (by rw [gfl_app]; exact r1) r2
end
section
open Go.RowKit Go
theorem rev_step (l : List Tp) (i : Nat) (t : Tp) (h : l[i]? = some t) : (l.drop i).reverse = (l.drop (i + 1)).reverse ++ [t] := by
  obtain ⟨hi, e⟩ := List.getElem?_eq_some_iff.1 h
  rw [List.drop_eq_getElem_cons hi, List.reverse_cons, e]
theorem tmod_in (m : Int) (n : Nat) : -((n : Int) + 1) < m.tmod ((n : Int) + 1) ∧ m.tmod ((n : Int) + 1) < (n : Int) + 1 := by
  have h0 : (0 : Int) < (n : Int) + 1 := by omega
  by_cases h : 0 ≤ m
  · rw [Int.tmod_eq_emod_of_nonneg h]
    have h1 := Int.emod_nonneg m (show ((n : Int) + 1) ≠ 0 by omega)
    have h2 := Int.emod_lt_of_pos m h0
    omega
  · have e : m = -(-m) := by omega
    rw [e, Int.neg_tmod, Int.tmod_eq_emod_of_nonneg (by omega)]
    have h1 := Int.emod_nonneg (-m) (show ((n : Int) + 1) ≠ 0 by omega)
    have h2 := Int.emod_lt_of_pos (-m) h0
    omega
set_option maxRecDepth 1000000 in
set_option maxHeartbeats 4000000 in
theorem turned_any (w : World) (v : Value) (l : List Tp) (hv : TSl w v l) (hS : Shrt l) (hl : l.length ≤ 100) (m : Int) : Calls Tryz.prog 10 #[v, .int .i64 m] w fun e w' => ∃ g, e = .returned (.slice (some ⟨g, 0, none⟩) 2 2) ∧ Hid (∃ k va vb, k ≤ l.length ∧ w'.heap[g]? = some (.cells #[va, vb] 22 (0, 0)) ∧ w.heap.size ≤ g ∧ TSl w' va l.reverse ∧ TSl w' vb (l.drop k ++ l.take k) ∧ Below w.heap.size w w') := by
  have HSH := hide hS
  have HTS := hide hv
  obtain ⟨a, cap, M, rfl, hcap, hc0, hMn, hMt, hMc⟩ := tsl_cells hv
  have HMN := hide hMn
  have HMT := hide hMt
  have HMC := hide hMc
  have HC0 := hide hc0
  have HCP := hide hcap
  have HX := hide (Tuw.start w)
  have HIT := hide infoTp
  have HAT : Hid (∀ w, (isAgg 29).run Tryz.prog w = .ok true w) := aggTp
  obtain ⟨r, hr⟩ : ∃ r, r = m.tmod ((l.length : Int) + 1) := ⟨_, rfl⟩
  have HR := hide hr
  have hr2 := tmod_in m l.length
  rw [← hr] at hr2
  clear hS hv hMn hMt hMc hc0 hcap hr
  go_enter Tryz.func10, Tryz.ntmps10
  go_wp2_with fail
  go_loopw [5, 6] (fun vo vi wx => ∃ (i : Nat) (a0 : Option Addr) (n0 c0 : Nat) (L : List (Array Value)), i ≤ l.length ∧ vo = .slice a0 n0 c0 ∧ vi = .int .i64 ((i : Int) - 1) ∧ Hid (Tuw w (.slice a0 n0 c0) L (l.drop i).reverse wx)) (fun _ vi _ => (intOf vi + 1).toNat)
  case atStart => exact ⟨l.length, none, 0, 0, [], by omega, rfl, rfl, by rw [List.drop_length]; exact HX⟩
  case round =>
    obtain ⟨i, a0, n0, c0, L, hi, rfl, rfl, HXi⟩ := hrel
    clear HX
    rcases i with _ | i
    · rw [show (((0 : Nat) : Int) - 1) = -1 from rfl]
      have HXE : Hid (Tuw w (.slice a0 n0 c0) L l.reverse wr) := HXi.out
      clear HXi
      have HBR : Hid (TSl wr (.slice a0 n0 c0) l.reverse) := HXE.out.tsl (by rw [List.length_reverse]; omega)
      have HBB := hide HXE.out.b
      have HR0 : Hid ((((l.length : Int) + 1) == 0) = false) := beq_eq_false_iff_ne.2 (by omega)
      obtain ⟨k, hk, hcase⟩ : ∃ k : Nat, k ≤ l.length ∧ ((r < 0 ∧ k = 0) ∨ (¬ r < 0 ∧ r = (k : Int))) := by
        by_cases h : r < 0
        · exact ⟨0, by omega, .inl ⟨h, rfl⟩⟩
        · exact ⟨r.toNat, by omega, .inr ⟨h, by omega⟩⟩
      clear HXE HIT HAT
      have e1 := HR.out
      have e0 := HR0.out
      rcases hcase with ⟨hneg, rfl⟩ | ⟨hneg, hrk⟩
      · rw [e1] at hneg
        go_upto_region 9 with fail
        have HR1 : Hid ((l.length : Int) ≤ (cap : Int)) := by have := HCP.out; show _ ≤ _; omega
        obtain ⟨a2, htd, ha2⟩ := tsl_drop HTS.out 0 (by omega)
        have HTD := hide htd
        refine heldStart (S := fun _ => True) (by kernel_rfl) ?_
        have hS : True := trivial
        have HBD : Hid (Below w.heap.size w wr.drew) := HBB.out.drew
        have HBR2 : Hid (TSl wr.drew (.slice a0 n0 c0) l.reverse) := HBR.out.move (fun x c h => h.move (fun _ _ h => h)) (fun _ _ h => h)
        clear HBB HBR htd
        generalize wr.drew = w2 at *
        refine heldTake 0 _ rfl (by kernel_rfl) (by kernel_rfl) (by kernel_rfl) (fun _ _ _ h => h) rfl hS (fun wy hy => by first | (go_simp; done) | (go_simp; rfl) | rfl) ?_
        (try simp only [Act.put]); (try simp only [List.setIfInBounds_toArray, List.set_cons_zero, List.set_cons_succ])
        refine heldTake 1 _ rfl (by kernel_rfl) (by kernel_rfl) (by kernel_rfl) (fun _ _ _ h => h) rfl hS (fun wy hy => by first | (go_simp; done) | (go_simp; rfl) | rfl) ?_
        (try simp only [Act.put]); (try simp only [List.setIfInBounds_toArray, List.set_cons_zero, List.set_cons_succ])
        refine heldTake 2 (.slice a2 (l.length - 0) (cap - 0)) rfl (by kernel_rfl) (by kernel_rfl) (by kernel_rfl) (fun _ _ _ h => h) rfl hS (fun wy hy => by
          have h1 := HCP.out
          rcases ha2 with ⟨rfl, rfl⟩ | ⟨ad, rfl, ⟨hck, rfl⟩ | ⟨hck, rfl⟩⟩
          · have h2 := HC0.out rfl
            first | (go_simp; done) | (go_simp; omega)
          · first | (go_simp; done) | (go_simp; omega)
          · first | (go_simp; done) | (go_simp; omega) | (go_simp; intro h; exact absurd h hck)) ?_
        (try simp only [Act.put]); (try simp only [List.setIfInBounds_toArray, List.set_cons_zero, List.set_cons_succ])
        refine heldTake 4 _ rfl (by kernel_rfl) (by kernel_rfl) (by kernel_rfl) (fun _ _ _ h => h) rfl hS (fun wy hy => by first | (go_simp; done) | (go_simp; rfl) | rfl) ?_
        (try simp only [Act.put]); (try simp only [List.setIfInBounds_toArray, List.set_cons_zero, List.set_cons_succ])
        refine heldTake 5 _ rfl (by kernel_rfl) (by kernel_rfl) (by kernel_rfl) (fun _ _ _ h => h) rfl hS (fun wy hy => by first | (go_simp; done) | (go_simp; rfl) | rfl) ?_
        (try simp only [Act.put]); (try simp only [List.setIfInBounds_toArray, List.set_cons_zero, List.set_cons_succ])
        refine heldTake 6 (.slice a 0 cap) rfl (by kernel_rfl) (by kernel_rfl) (by kernel_rfl) (fun _ _ _ h => h) rfl hS (fun wy hy => by
          have h1 := HCP.out
          cases a with
          | none =>
            have h2 := HC0.out rfl
            first | (go_simp; done) | (go_simp; omega)
          | some ad => first | (go_simp; done) | (go_simp; omega)) ?_
        (try simp only [Act.put]); (try simp only [List.setIfInBounds_toArray, List.set_cons_zero, List.set_cons_succ])
        have HDL : Hid ((l.drop 0).length = l.length - 0) := List.length_drop
        have HSD : Hid (Shrt (l.drop 0)) := fun t ht => HSH.out t (List.mem_of_mem_drop ht)
        have HTD2 : Hid (TSl w2 (.slice a2 (l.length - 0) (cap - 0)) (l.drop 0)) := HTD.out.move (fun x c h => h.move (keep_below HBD.out)) (keep_below HBD.out)
        refine heldStep 3 rfl (by kernel_rfl) (fun K1 hK1 => ?_)
        go_simp
        refine (copyTs2_any w2 _ (l.drop 0) HTD2.out HSD.out (by have := HDL.out; omega)).mono ?_
        rintro e w3 ⟨a3, n3, c3, L3, rfl, hP3⟩
        have HP3 := hP3
        clear hP3
        refine (Hid.out hK1) _ _ trivial (fun hS2 => ?_)
        clear hK1 K1 hS
        have hS := hS2
        clear hS2
        (try simp only [Act.put]); (try simp only [List.setIfInBounds_toArray, List.set_cons_zero, List.set_cons_succ])
        refine heldStep 7 rfl (by kernel_rfl) (fun K1 hK1 => ?_)
        obtain ⟨f1, f2, f3, f4, f5⟩ := cells_take (k := 0) HMN.out HMT.out HMC.out HBD.out (by omega)
        have HF2 := hide f2
        have HF3 := hide f3
        have hL3 := HP3.out.n
        refine step_append_gs infoTp3 Tryz.underlying22 rfl (by decide) (by decide) rfl rfl rfl HP3.out.o (M := M.take 0) (ad := a) (c := cap) (by rw [f1]; rfl) f3 f4 (by rw [f1, hL3, HDL.out]; omega) HC0.out (f5.imp id (fun ⟨b, off, e, h⟩ => ⟨b, off, e, fun i d hd j u hu => keep_below HP3.out.b _ _ (h i d hd j u hu)⟩)) HP3.out.b.size ?_
        intro v4 w4 ho4 hg4
        have h4 := opw_cat HP3.out hg4 ho4 (m := l.take 0) (by rw [f1, List.length_take]; omega) HF2.out HF3.out (by rw [List.length_append, List.length_drop, List.length_take]; omega)
        obtain ⟨a4, c4, hv4, _⟩ := own_formG ho4
        subst hv4
        have HT4 := hide h4.1
        have HB4 := hide h4.2
        clear ho4 hg4 h4 f1 f2 f3 f4 f5 hL3
        generalize (L3.length + (M.take 0).length) = n4 at *
        refine (Hid.out hK1) _ _ trivial (fun hS2 => ?_)
        clear hK1 K1 hS
        have hS := hS2
        clear hS2
        (try simp only [Act.put]); (try simp only [List.setIfInBounds_toArray, List.set_cons_zero, List.set_cons_succ])
        refine heldTake 8 _ rfl (by kernel_rfl) (by kernel_rfl) (by kernel_rfl) (fun _ _ _ h => h) rfl hS (fun wy hy => by first | (go_simp; done) | (go_simp; rfl) | rfl) ?_
        (try simp only [Act.put]); (try simp only [List.setIfInBounds_toArray, List.set_cons_zero, List.set_cons_succ])
        refine heldDone (by kernel_rfl) ?_
        have HBR4 : Hid (TSl w4 (.slice a0 n0 c0) l.reverse) := HBR2.out.move (fun x c h => h.move (keep_below HB4.out)) (keep_below HB4.out)
        have HSR : Hid (Shrt l.reverse) := fun t ht => HSH.out t (List.mem_reverse.1 ht)
        have HBW : Hid (Below w.heap.size w w4) := HBD.out.trans (HB4.out.mono HBD.out.size)
        clear HTD HTD2 HBR2 HP3 HF2 HF3 HSD HMC HMT HMN ha2
        go_wp2_with fail
        refine (copyTs2_any w4 _ l.reverse HBR4.out HSR.out (by rw [List.length_reverse]; omega)).mono ?_
        rintro e w5 ⟨a5, n5, c5, L5, rfl, hP5⟩
        have HT5 : Hid (TSl w5 (.slice a5 n5 c5) l.reverse) := hP5.out.tsl (by rw [List.length_reverse]; omega)
        have HT6 : Hid (TSl w5 (.slice a4 n4 c4) (l.drop 0 ++ l.take 0)) := HT4.out.move (fun x c h => h.move (keep_below hP5.out.b)) (keep_below hP5.out.b)
        have HB5 : Hid (Below w.heap.size w w5) := HBW.out.trans (hP5.out.b.mono HBW.out.size)
        clear hP5 HT4 HB4
        go_wp2_with fail
        go_ret
        have hb6 := below_alloc4 w5 (.cells #[.slice a5 n5 c5, .slice a4 n4 c4] 22)
        exact ⟨_, rfl, 0, _, _, by omega, heap_alloc_new w5 _, HB5.out.size, HT5.out.move (fun x c h => h.move (keep_below hb6)) (keep_below hb6), HT6.out.move (fun x c h => h.move (keep_below hb6)) (keep_below hb6), HB5.out.trans (hb6.mono HB5.out.size)⟩
      · rw [e1] at hneg
        go_upto_region 9 with fail
        rw [← e1, hrk]
        have HR1 : Hid ((l.length : Int) ≤ (cap : Int)) := by have := HCP.out; show _ ≤ _; omega
        obtain ⟨a2, htd, ha2⟩ := tsl_drop HTS.out k (by omega)
        have HTD := hide htd
        refine heldStart (S := fun _ => True) (by kernel_rfl) ?_
        have hS : True := trivial
        have HBD : Hid (Below w.heap.size w wr.drew) := HBB.out.drew
        have HBR2 : Hid (TSl wr.drew (.slice a0 n0 c0) l.reverse) := HBR.out.move (fun x c h => h.move (fun _ _ h => h)) (fun _ _ h => h)
        clear HBB HBR htd
        generalize wr.drew = w2 at *
        refine heldTake 0 _ rfl (by kernel_rfl) (by kernel_rfl) (by kernel_rfl) (fun _ _ _ h => h) rfl hS (fun wy hy => by first | (go_simp; done) | (go_simp; rfl) | rfl) ?_
        (try simp only [Act.put]); (try simp only [List.setIfInBounds_toArray, List.set_cons_zero, List.set_cons_succ])
        refine heldTake 1 _ rfl (by kernel_rfl) (by kernel_rfl) (by kernel_rfl) (fun _ _ _ h => h) rfl hS (fun wy hy => by first | (go_simp; done) | (go_simp; rfl) | rfl) ?_
        (try simp only [Act.put]); (try simp only [List.setIfInBounds_toArray, List.set_cons_zero, List.set_cons_succ])
        refine heldTake 2 (.slice a2 (l.length - k) (cap - k)) rfl (by kernel_rfl) (by kernel_rfl) (by kernel_rfl) (fun _ _ _ h => h) rfl hS (fun wy hy => by
          have h1 := HCP.out
          rcases ha2 with ⟨rfl, rfl⟩ | ⟨ad, rfl, ⟨hck, rfl⟩ | ⟨hck, rfl⟩⟩
          · have h2 := HC0.out rfl
            first | (go_simp; done) | (go_simp; omega)
          · first | (go_simp; done) | (go_simp; omega)
          · first | (go_simp; done) | (go_simp; omega) | (go_simp; intro h; exact absurd h hck)) ?_
        (try simp only [Act.put]); (try simp only [List.setIfInBounds_toArray, List.set_cons_zero, List.set_cons_succ])
        refine heldTake 4 _ rfl (by kernel_rfl) (by kernel_rfl) (by kernel_rfl) (fun _ _ _ h => h) rfl hS (fun wy hy => by first | (go_simp; done) | (go_simp; rfl) | rfl) ?_
        (try simp only [Act.put]); (try simp only [List.setIfInBounds_toArray, List.set_cons_zero, List.set_cons_succ])
        refine heldTake 5 _ rfl (by kernel_rfl) (by kernel_rfl) (by kernel_rfl) (fun _ _ _ h => h) rfl hS (fun wy hy => by first | (go_simp; done) | (go_simp; rfl) | rfl) ?_
        (try simp only [Act.put]); (try simp only [List.setIfInBounds_toArray, List.set_cons_zero, List.set_cons_succ])
        refine heldTake 6 (.slice a k cap) rfl (by kernel_rfl) (by kernel_rfl) (by kernel_rfl) (fun _ _ _ h => h) rfl hS (fun wy hy => by
          have h1 := HCP.out
          cases a with
          | none =>
            have h2 := HC0.out rfl
            first | (go_simp; done) | (go_simp; omega)
          | some ad => first | (go_simp; done) | (go_simp; omega)) ?_
        (try simp only [Act.put]); (try simp only [List.setIfInBounds_toArray, List.set_cons_zero, List.set_cons_succ])
        have HDL : Hid ((l.drop k).length = l.length - k) := List.length_drop
        have HSD : Hid (Shrt (l.drop k)) := fun t ht => HSH.out t (List.mem_of_mem_drop ht)
        have HTD2 : Hid (TSl w2 (.slice a2 (l.length - k) (cap - k)) (l.drop k)) := HTD.out.move (fun x c h => h.move (keep_below HBD.out)) (keep_below HBD.out)
        refine heldStep 3 rfl (by kernel_rfl) (fun K1 hK1 => ?_)
        go_simp
        refine (copyTs2_any w2 _ (l.drop k) HTD2.out HSD.out (by have := HDL.out; omega)).mono ?_
        rintro e w3 ⟨a3, n3, c3, L3, rfl, hP3⟩
        have HP3 := hP3
        clear hP3
        refine (Hid.out hK1) _ _ trivial (fun hS2 => ?_)
        clear hK1 K1 hS
        have hS := hS2
        clear hS2
        (try simp only [Act.put]); (try simp only [List.setIfInBounds_toArray, List.set_cons_zero, List.set_cons_succ])
        refine heldStep 7 rfl (by kernel_rfl) (fun K1 hK1 => ?_)
        obtain ⟨f1, f2, f3, f4, f5⟩ := cells_take (k := k) HMN.out HMT.out HMC.out HBD.out (by omega)
        have HF2 := hide f2
        have HF3 := hide f3
        have hL3 := HP3.out.n
        refine step_append_gs infoTp3 Tryz.underlying22 rfl (by decide) (by decide) rfl rfl rfl HP3.out.o (M := M.take k) (ad := a) (c := cap) (by rw [f1]; rfl) f3 f4 (by rw [f1, hL3, HDL.out]; omega) HC0.out (f5.imp id (fun ⟨b, off, e, h⟩ => ⟨b, off, e, fun i d hd j u hu => keep_below HP3.out.b _ _ (h i d hd j u hu)⟩)) HP3.out.b.size ?_
        intro v4 w4 ho4 hg4
        have h4 := opw_cat HP3.out hg4 ho4 (m := l.take k) (by rw [f1, List.length_take]; omega) HF2.out HF3.out (by rw [List.length_append, List.length_drop, List.length_take]; omega)
        obtain ⟨a4, c4, hv4, _⟩ := own_formG ho4
        subst hv4
        have HT4 := hide h4.1
        have HB4 := hide h4.2
        clear ho4 hg4 h4 f1 f2 f3 f4 f5 hL3
        generalize (L3.length + (M.take k).length) = n4 at *
        refine (Hid.out hK1) _ _ trivial (fun hS2 => ?_)
        clear hK1 K1 hS
        have hS := hS2
        clear hS2
        (try simp only [Act.put]); (try simp only [List.setIfInBounds_toArray, List.set_cons_zero, List.set_cons_succ])
        refine heldTake 8 _ rfl (by kernel_rfl) (by kernel_rfl) (by kernel_rfl) (fun _ _ _ h => h) rfl hS (fun wy hy => by first | (go_simp; done) | (go_simp; rfl) | rfl) ?_
        (try simp only [Act.put]); (try simp only [List.setIfInBounds_toArray, List.set_cons_zero, List.set_cons_succ])
        refine heldDone (by kernel_rfl) ?_
        have HBR4 : Hid (TSl w4 (.slice a0 n0 c0) l.reverse) := HBR2.out.move (fun x c h => h.move (keep_below HB4.out)) (keep_below HB4.out)
        have HSR : Hid (Shrt l.reverse) := fun t ht => HSH.out t (List.mem_reverse.1 ht)
        have HBW : Hid (Below w.heap.size w w4) := HBD.out.trans (HB4.out.mono HBD.out.size)
        clear HTD HTD2 HBR2 HP3 HF2 HF3 HSD HMC HMT HMN ha2
        go_wp2_with fail
        refine (copyTs2_any w4 _ l.reverse HBR4.out HSR.out (by rw [List.length_reverse]; omega)).mono ?_
        rintro e w5 ⟨a5, n5, c5, L5, rfl, hP5⟩
        have HT5 : Hid (TSl w5 (.slice a5 n5 c5) l.reverse) := hP5.out.tsl (by rw [List.length_reverse]; omega)
        have HT6 : Hid (TSl w5 (.slice a4 n4 c4) (l.drop k ++ l.take k)) := HT4.out.move (fun x c h => h.move (keep_below hP5.out.b)) (keep_below hP5.out.b)
        have HB5 : Hid (Below w.heap.size w w5) := HBW.out.trans (hP5.out.b.mono HBW.out.size)
        clear hP5 HT4 HB4
        go_wp2_with fail
        go_ret
        have hb6 := below_alloc4 w5 (.cells #[.slice a5 n5 c5, .slice a4 n4 c4] 22)
        exact ⟨_, rfl, k, _, _, by omega, heap_alloc_new w5 _, HB5.out.size, HT5.out.move (fun x c h => h.move (keep_below hb6)) (keep_below hb6), HT6.out.move (fun x c h => h.move (keep_below hb6)) (keep_below hb6), HB5.out.trans (hb6.mono HB5.out.size)⟩
    · rw [show (((i + 1 : Nat) : Int) - 1) = (i : Int) by omega]
      have hlt : i < l.length := by omega
      obtain ⟨t, ht⟩ : ∃ t, l[i]? = some t := ⟨l[i], List.getElem?_eq_getElem hlt⟩
      obtain ⟨c, hc⟩ : ∃ c, M[i]? = some c := ⟨M[i]'(by have := HMN.out; omega), List.getElem?_eq_getElem _⟩
      obtain ⟨b, off, rfl, hcc⟩ := HMC.out.resolve_left (fun h => by rw [h] at hc; simp at hc)
      have HTP := hide (HMT.out i t c ht hc)
      have HZ9 := hide HTP.out.size9
      have HCL : Hid (∀ j u, c[j]? = some u → wr.cell? ⟨b, off + i * 9 + j, none⟩ = some u) := fun j u hj => keep_below HXi.out.b _ _ (hcc i c hc j u hj)
      have HTK := hide (rev_step l i t ht)
      have HLL : Hid (L.length ≤ 1000000) := by
        have h1 := HXi.out.n
        rw [List.length_reverse, List.length_drop] at h1
        show _ ≤ _
        omega
      clear hcc ht hc HMC HMT HMN HR hr2
      go_wp2_with (first
        | (refine wpList_aggAt rfl rfl HIT.out HAT.out b (off + i * 9) c rfl HZ9.out HCL.out ?_)
        | (refine row1 infoTp3 Tryz.underlying22 (by decide) (by decide) rfl rfl rfl (c := c) rfl HZ9.out ?_)
        | (refine HXi.out.law HTP.out HLL.out rfl rfl rfl rfl ?_; intro a9 n9 c9 w9 HX9))
      go_roundw
      case rel => exact ⟨i, _, _, _, _, by omega, rfl, by go_num, by rw [HTK.out]; exact HX9⟩
      case measure => simp [intOf]
end
section
open Go.RowKit Go
/-- A row of texts that lies in blocks of its own reads as these texts, whatever became of the rest. -/
theorem SSl.own {w : World} {base n : Nat} {v : Value} {ks : List ByteArray} (h : w.ownsRow base 9 1 v n (sv ks)) (hn : n = ks.length) (hm : ks.length ≤ 140737488351232) (hs : ∀ s ∈ ks, s.size ≤ 140737488351232) : SSl w v ks := by
  subst hn
  rcases id h.2 with ⟨hv, he⟩ | ⟨g, cap, cur, hv, _, _, h1, _⟩
  · subst hv
    have e : ks = [] := List.length_eq_zero_iff.1 he
    subst e
    exact ⟨⟨none, 0, rfl, ⟨by simp, fun _ => rfl⟩, .inl rfl⟩, hm, hs⟩
  · subst hv
    refine ⟨⟨_, cap, rfl, ⟨by omega, fun h => by cases h⟩, .inr ⟨g, 0, rfl, fun j s hj => ?_⟩⟩, hm, hs⟩
    rw [Nat.zero_add]
    exact (own_cell h (sv_get hj)).1
end
end Go.Proofs.YtagkogpjckjobaaGreatDoor
