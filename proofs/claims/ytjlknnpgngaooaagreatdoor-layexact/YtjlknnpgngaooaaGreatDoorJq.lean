import Derived.Test.YtjlknnpgngaooaaGreatDoorJp
import Derived.Test.YtjlknnpgngaooaaGreatDoorJc
import Derived.Test.YtjlknnpgngaooaaGreatDoorJd
import Derived.Test.YtjlknnpgngaooaaGreatDoorJa
import Derived.Test.YtjlknnpgngaooaaGreatDoorJf
import Derived.Test.YtjlknnpgngaooaaGreatDoorJo
import Derived.Test.YtjlknnpgngaooaaGreatDoorJl
import Derived.Test.YtjlknnpgngaooaaGreatDoorJi
import Derived.Test.YtjlknnpgngaooaaGreatDoorJb
import Derived.Lib.SmallJoins
import Derived.Test.YtjlknnpgngaooaaGreatDoorRows
import Derived.Lib.LaidU8T
import Derived.Lib.LaidIn
namespace Go.Proofs.YtjlknnpgngaooaaGreatDoor
section
open Go.RowKit Go
theorem Tis.parts {w : World} {S : Nat → Prop} {t : Tv} {c : Array Value} (h : Tis w S t c) : ∃ vy vk a cap, ∃ cx : Nat → Array Value, c = vcs t vy vk (.slice a t.is.length cap) ∧ Tbd t ∧ BSl w vy t.y ∧ SSl w vk t.ks ∧ (∀ (i : Nat) (u : Tv), t.is[i]? = some u → Tis w S u (cx i)) ∧ t.is.length ≤ 140737488351232 ∧ (t.is = [] ∨ ∃ b off, a = some ⟨b, off, none⟩ ∧ ¬ S b ∧ ∀ i, i < t.is.length → ∀ j x, (cx i)[j]? = some x → w.cell? ⟨b, off + i * 13 + j, none⟩ = some x) ∧ (t.y ≠ [] → ∀ q, vy.ownBlock = some q → ¬ S q) ∧ (t.ks ≠ [] → ∀ q, vk.ownBlock = some q → ¬ S q) := by
  cases h with
  | mk _ vy vk vi hb hy hys hk hks cs a cap hv hc hm hi ha =>
    subst hv
    exact ⟨vy, vk, a, cap, cs, rfl, hb, hy, hk, hi, hm, ha, hys, hks⟩
theorem end_sv {wx : World} {R : Nat} {c : Array Value} {tmps : Array Value} (hn : c.size = 13) (hr : wx.heap[R]? = some (.cells c 65 (0, 0))) (hp : tmps.getD 4 undef = .pointer (some ⟨R, 0, none⟩)) : (results Tryz.f14 tmps).run Tryz.prog wx = .ok (.agg c) wx := by
  refine (results_one (p := 4) (ty := 65) rfl _ _ _).trans ?_
  rw [hp]
  have h1 := run_loadVar_row (P := Tryz.prog) wx R 65 65 c (0, 0) _ hr Tryz.underlying65 rfl (by rw [hn]; exact infoV)
  simp [asAddr, h1, Result.andThen]
theorem muchL_in6 {u : Tv} : ∀ {l : List Tv}, u ∈ l → tmuch u ≤ tmuchL l
  | t :: r, h => by
    rw [tmuchL]
    rcases List.mem_cons.1 h with rfl | h
    · omega
    · have := muchL_in6 h
      omega
theorem much_in6 {t u : Tv} (h : u ∈ t.is) : tmuch u ≤ tmuch t := by
  have := muchL_in6 h
  rw [tmuch_eq t]
  omega
theorem muchL_len6 : ∀ l : List Tv, l.length ≤ tmuchL l
  | [] => by simp
  | t :: r => by
    have h1 := muchL_len6 r
    have h2 : 1 ≤ tmuch t := by rw [tmuch_eq]; omega
    rw [tmuchL, List.length_cons]
    omega
theorem much_len6 {t : Tv} {N : Nat} (h : tmuch t ≤ N) : t.is.length ≤ N := by
  have := muchL_len6 t.is
  rw [tmuch_eq] at h
  omega
/-- What Value has of its own: the value handed in, the answer's cells, the value that is made. -/
structure Fsv (w wx : World) (cs c5 : Array Value) : Prop where
  a : wx.heap[w.heap.size]? = some (.cells cs 65 (0, 0))
  z : wx.heap[w.heap.size + 1]? = some (.cells zv 65 (0, 0))
  r : wx.heap[w.heap.size + 2]? = some (.cells c5 65 (0, 0))
theorem Fsv.kp {w wx wy : World} {cs c5 : Array Value} {S : Nat → Prop} (h : Fsv w wx cs c5) (hk : Kp S wx wy) (hs : ∀ q, S q → q < w.heap.size ∨ w.heap.size + 3 ≤ q) : Fsv w wy cs c5 :=
  ⟨(hk.block _ (blk_lt h.a) (fun e => by have := hs _ e; omega)).trans h.a, (hk.block _ (blk_lt h.z) (fun e => by have := hs _ e; omega)).trans h.z, (hk.block _ (blk_lt h.r) (fun e => by have := hs _ e; omega)).trans h.r⟩
theorem Fsv.set {w wx : World} {cs c5 : Array Value} (h : Fsv w wx cs c5) (j : Nat) (v : Value) : Fsv w (wx.setCell ⟨w.heap.size + 2, j, none⟩ v) cs (c5.setIfInBounds j v) :=
  ⟨blk_other _ _ h.a (by omega), blk_other _ _ h.z (by omega), blk_set j v h.r⟩
set_option maxRecDepth 1000000 in
set_option maxHeartbeats 4000000 in
theorem svalue_step (t : Tv) (ih : ∀ u ∈ t.is, SvC u) : SvC t := by
  intro w p M cs hsea ht hm
  cases hsea with
  | mk _ _ d h hc =>
  have HIH := hide ih
  have HH := hide h
  have HC := hide hc
  have HT := hide ht
  have HM := hide hm
  have HSZ := hide ht.tin.size13
  have HA1 := hide ht.tin.all1
  have HLT := hide h.lt
  obtain ⟨vy, vk, a, cap, cx, hcs, htb, hby, hsk, hti, hil, hat, hys, hks⟩ := ht.parts
  have HCS := hide hcs
  have HTB := hide htb
  have HBY := hide hby
  have HSK := hide hsk
  have HTI := hide hti
  have HIL := hide hil
  have HAT := hide hat
  have HKS := hide hks
  obtain ⟨⟨ay, cy, hvy, _, _⟩, _, _⟩ := id hby
  obtain ⟨⟨ak, ck, hvk, _, _⟩, _, _⟩ := id hsk
  have HVY := hide hvy
  have HVK := hide hvk
  clear ih h hc ht hm hcs htb hby hsk hti hil hat hys hks hvy hvk
  have hb2 : Below w.heap.size w ((w.alloc (.cells cs 65)).alloc (.cells zv 65)) := (below_alloc4 w _).trans ((below_alloc4 _ _).mono (below_alloc4 w _).size)
  have hz1 : (w.alloc (.cells cs 65)).heap.size = w.heap.size + 1 := by simp
  have hg1 : ((w.alloc (.cells cs 65)).alloc (.cells zv 65)).heap[w.heap.size]? = some (.cells cs 65 (0, 0)) := blk_alloc _ (heap_alloc_new w (.cells cs 65))
  have hg2 := heap_alloc_new (w.alloc (.cells cs 65)) (.cells zv 65)
  rw [hz1] at hg2
  have hz2 : ((w.alloc (.cells cs 65)).alloc (.cells zv 65)).heap.size = w.heap.size + 2 := by simp
  have HB2 := hide hb2
  have HG1 := hide hg1
  have HG2 := hide hg2
  have HZ2 := hide hz2
  clear hb2 hz1 hg1 hg2 hz2
  go_enter Tryz.func14, Tryz.ntmps14
  go_upto_region 1 with fail
  unfold zv at HB2 HG1 HG2 HZ2
  generalize (w.alloc (.cells cs 65)).alloc (.cells #[.int .i64 0, .bool false, .bool false, .int .u64 0, .int .u64 0, .string ⟨#[]⟩, .slice none 0 0, .int .i64 0, .int .u64 0, .int .u64 0, .string ⟨#[]⟩, .slice none 0 0, .slice none 0 0] 65) = w2 at *
  have HV1 : Hid (∀ j u, cs[j]? = some u → w2.cell? ⟨w.heap.size, 0 + j, none⟩ = some u) := fun j u hu => by rw [Nat.zero_add]; exact blk_cell HG1.out hu
  have HI := hide (itm_mk w2 cs)
  have HG0 := hide (heap_alloc_new w2 (.cells zv 65))
  have HIN : Hid ((Tryz.prog.info? 65).map (·.size) = some cs.size) := by show _ = _; rw [HSZ.out]; exact infoV
  have HZV : Hid (zv.size = cs.size) := by show _ = _; rw [HSZ.out]; rfl
  go_upto_region 2 with (first
    | (refine wpList_exec rfl (exec_valAt (g := w.heap.size) (off := 0) (cs := cs) rfl rfl HSZ.out HV1.out) ?_)
    | (refine wpList_storeRow rfl rfl w2.heap.size zv cs 65 rfl rfl HG0.out HIN.out HZV.out HA1.out ?_))
  unfold zv at HI
  generalize hw3 : (w2.alloc (.cells #[.int .i64 0, .bool false, .bool false, .int .u64 0, .int .u64 0, .string ⟨#[]⟩, .slice none 0 0, .int .i64 0, .int .u64 0, .int .u64 0, .string ⟨#[]⟩, .slice none 0 0, .slice none 0 0] 65)).setRow w2.heap.size cs = w3 at *
  have hz2 := HZ2.out
  have HF3 : Hid (Fsv w w3 cs cs) := by
    refine ⟨(HI.out.b.block _ (blk_lt HG1.out)).trans HG1.out, (HI.out.b.block _ (blk_lt HG2.out)).trans HG2.out, ?_⟩
    rw [← hz2]
    exact HI.out.r
  have HB3 : Hid (Below w.heap.size w w3) := HB2.out.trans (HI.out.b.mono HB2.out.size)
  have HZ3 : Hid (w3.heap.size = w.heap.size + 3) := by show _ = _; rw [HI.out.z, hz2]
  clear HV1 HI HG0 HIN HZV HG1 HG2 HB2 hw3
  rw [hz2]
  clear hz2 HZ2
  have HH3 := hide (HH.out.kp (Kp.of_below (S := fun _ => False) HB3.out) (fun _ _ e => e))
  have HC3 : Hid (∀ (i q : Nat), d.qs[i]? = some q → Sea w3 q (d.Ms i)) := fun i q hq => (HC.out i q hq).next HB3.out
  have HOL : Hid (∀ q, d.own p q → q < w.heap.size) := fun q hq => HLT.out q (HH.out.mo q hq)
  have HML : Hid (∀ i, i < d.qs.length → ∀ x, d.Ms i x → x < w.heap.size) := fun i hi x hx => HLT.out x (HH.out.ms i hi x hx).1
  have q6 : w3.cell? ⟨w.heap.size, 6, none⟩ = some (.slice ay t.y.length cy) := blk_cell (j := 6) HF3.out.a (by rw [HCS.out, HVY.out]; rfl)
  have HBY3 : Hid (BSl w3 (.slice ay t.y.length cy) t.y) := by have h := HBY.out.move (keep_below HB3.out); rw [HVY.out] at h; exact h
  go_wp2_with fail
  refine (sbytes_any w3 p d.vb d.vt d.vv d.vu d.nb d.xb HH3.out.fp HH3.out.fb _ t.y HBY3.out HTB.out.y).mono ?_
  rintro e w4 ⟨vb', rfl, hp4, ho4, hk4, hn4⟩
  obtain ⟨ab, cb, hvb⟩ := row_slice ho4
  subst hvb
  have HE4 := hide (HH3.out.bytes hp4 ho4 hk4 hn4)
  have HF4 := hide (HF3.out.kp hk4 (fun q e => .inl (e.elim (fun e => HOL.out q (.inl e)) (fun e => HOL.out q (.inr (.inl e))))))
  have HK4 : Hid (Kp M w w4) := (Kp.of_below (S := M) HB3.out).trans hk4 (fun q _ e => e.elim (fun e => HH.out.mo q (.inl e)) (fun e => HH.out.mo q (.inr (.inl e))))
  have HC4 : Hid (∀ (i q : Nat), d.qs[i]? = some q → Sea w4 q (d.Ms i)) := fun i q hq => (HC3.out i q hq).kp hk4 (fun x hx e => (HH.out.ms i (List.getElem?_eq_some_iff.1 hq).1 x hx).2 (e.elim (fun e => .inl e) (fun e => .inr (.inl e))))
  have HZ34 : Hid (w3.heap.size ≤ w4.heap.size) := hk4.size
  have k5 : Kp (fun q => q = w.heap.size + 2) w4 (w4.setCell ⟨w.heap.size + 2, 6, none⟩ (.slice ab t.y.length cb)) := (Kp.refl _ _).setCell _ _ (fun _ => rfl)
  have HF5 := hide (HF4.out.set 6 (.slice ab t.y.length cb))
  have HK5 : Hid (Kp M w (w4.setCell ⟨w.heap.size + 2, 6, none⟩ (.slice ab t.y.length cb))) := HK4.out.trans k5 (fun q hq e => by omega)
  have HE5 := hide (HE4.out.kp k5 (fun q hq e => by
    have h1 := HE4.out.mo q hq
    have h2 := HZ3.out
    rcases h1 with h1 | h1
    · have := HLT.out q h1
      omega
    · omega))
  have HC5 : Hid (∀ (i q : Nat), d.qs[i]? = some q → Sea (w4.setCell ⟨w.heap.size + 2, 6, none⟩ (.slice ab t.y.length cb)) q (d.Ms i)) := fun i q hq => (HC4.out i q hq).kp k5 (fun x hx e => by have := HML.out i (List.getElem?_eq_some_iff.1 hq).1 x hx; omega)
  have c6 : w4.cell? ⟨w.heap.size + 2, 6, none⟩ = some (.slice ay t.y.length cy) := blk_cell (j := 6) HF4.out.r (by rw [HCS.out, HVY.out]; rfl)
  have f6 : w4.frozen? ⟨w.heap.size + 2, 6, none⟩ = false := blk_frozen 6 HF4.out.r
  have HZ45 : Hid ((w4.setCell ⟨w.heap.size + 2, 6, none⟩ (.slice ab t.y.length cb)).heap.size = w4.heap.size) := by show _ = _; simp [World.setCell]
  have q11 : (w4.setCell ⟨w.heap.size + 2, 6, none⟩ (.slice ab t.y.length cb)).cell? ⟨w.heap.size, 11, none⟩ = some (.slice ak t.ks.length ck) := blk_cell (j := 11) HF5.out.a (by rw [HCS.out, HVK.out]; rfl)
  clear hp4 ho4 hk4 hn4 k5 q6 HF3 HF4 HE4 HC3 HC4 HK4 HBY3 HH3
  go_upto_region 3 with fail
  generalize w4.setCell ⟨w.heap.size + 2, 6, none⟩ (.slice ab t.y.length cb) = w5 at *
  clear c6 f6
  have HSK5 : Hid (SSl w5 (.slice ak t.ks.length ck) t.ks) := by
    show SSl _ _ _
    rw [← HVK.out]
    by_cases e : t.ks = []
    · have h := HSK.out
      rw [e] at h ⊢
      exact ssl_nil6 h
    · exact HK5.out.ssl HSK.out (HKS.out e)
  go_wp2_with fail
  refine (stexts_any w5 p _ d.vt d.vv d.vu d.nt d.xt HE5.out.fp HE5.out.ft _ t.ks HSK5.out (by have := HM.out; rw [tmuch_eq] at this; omega)).mono ?_
  rintro e w6 ⟨vt', rfl, hp6, ho6, hk6, hn6⟩
  obtain ⟨at6, ct6, hvt⟩ := row_slice ho6
  subst hvt
  have HE6 := hide (HE5.out.texts hp6 ho6 hk6 hn6)
  have HF6 := hide (HF5.out.kp hk6 (fun q e => .inl (e.elim (fun e => HOL.out q (.inl e)) (fun e => HOL.out q (.inr (.inr (.inl e)))))))
  have HK6 : Hid (Kp M w w6) := HK5.out.trans hk6 (fun q _ e => e.elim (fun e => HH.out.mo q (.inl e)) (fun e => HH.out.mo q (.inr (.inr (.inl e)))))
  have HC6 : Hid (∀ (i q : Nat), d.qs[i]? = some q → Sea w6 q (d.Ms i)) := fun i q hq => (HC5.out i q hq).kp hk6 (fun x hx e => (HH.out.ms i (List.getElem?_eq_some_iff.1 hq).1 x hx).2 (e.elim (fun e => .inl e) (fun e => .inr (.inr (.inl e)))))
  have HZ56 : Hid (w5.heap.size ≤ w6.heap.size) := hk6.size
  have HZ67 : Hid ((w6.setCell ⟨w.heap.size + 2, 11, none⟩ (.slice at6 t.ks.length ct6)).heap.size = w6.heap.size) := by show _ = _; simp [World.setCell]
  have k7 : Kp (fun q => q = w.heap.size + 2) w6 (w6.setCell ⟨w.heap.size + 2, 11, none⟩ (.slice at6 t.ks.length ct6)) := (Kp.refl _ _).setCell _ _ (fun _ => rfl)
  have HF7 := hide (HF6.out.set 11 (.slice at6 t.ks.length ct6))
  have HK7 : Hid (Kp M w (w6.setCell ⟨w.heap.size + 2, 11, none⟩ (.slice at6 t.ks.length ct6))) := HK6.out.trans k7 (fun q hq e => by omega)
  have HNW : Hid (∀ q, ((M q ∨ (w3.heap.size ≤ q ∧ q < w4.heap.size)) ∨ (w5.heap.size ≤ q ∧ q < w6.heap.size)) → M q ∨ w.heap.size + 3 ≤ q) := fun q hq => by
    have h1 := HZ3.out
    have h2 := HZ34.out
    have h3 := HZ45.out
    rcases hq with (hq | hq) | hq
    · exact .inl hq
    · exact .inr (by omega)
    · exact .inr (by omega)
  have HE7 := hide (HE6.out.kp k7 (fun q hq e => by
    rcases HNW.out q (HE6.out.mo q hq) with h1 | h1
    · have := HLT.out q h1
      omega
    · omega))
  have HC7 : Hid (∀ (i q : Nat), d.qs[i]? = some q → Sea (w6.setCell ⟨w.heap.size + 2, 11, none⟩ (.slice at6 t.ks.length ct6)) q (d.Ms i)) := fun i q hq => (HC6.out i q hq).kp k7 (fun x hx e => by have := HML.out i (List.getElem?_eq_some_iff.1 hq).1 x hx; omega)
  have c11 : w6.cell? ⟨w.heap.size + 2, 11, none⟩ = some (.slice ak t.ks.length ck) := blk_cell (j := 11) HF6.out.r (by rw [HCS.out, HVK.out]; rfl)
  have f11 : w6.frozen? ⟨w.heap.size + 2, 11, none⟩ = false := blk_frozen 11 HF6.out.r
  have q12 : (w6.setCell ⟨w.heap.size + 2, 11, none⟩ (.slice at6 t.ks.length ct6)).cell? ⟨w.heap.size, 12, none⟩ = some (.slice a t.is.length cap) := blk_cell (j := 12) HF7.out.a (by rw [HCS.out]; rfl)
  clear hp6 ho6 hk6 hn6 k7 q11 HF5 HF6 HE5 HE6 HC5 HC6 HK5 HK6 HSK5
  go_upto_region 4 with fail
  generalize w6.setCell ⟨w.heap.size + 2, 11, none⟩ (.slice at6 t.ks.length ct6) = w7 at *
  clear c11 f11
  have HTI7 : Hid (∀ (i : Nat) (u : Tv), t.is[i]? = some u → Tis w7 (fun q => (M q ∨ (w3.heap.size ≤ q ∧ q < w4.heap.size)) ∨ (w5.heap.size ≤ q ∧ q < w6.heap.size)) u (cx i)) := fun i u hu => ((HTI.out i u hu).widen.kp (HK7.out.mono (fun q _ e => .inl e))).mono (fun q hq => (HNW.out q hq).imp id (fun e => by omega))
  have HAT7 : Hid (t.is = [] ∨ ∃ b off, a = some ⟨b, off, none⟩ ∧ ¬ ((M b ∨ (w3.heap.size ≤ b ∧ b < w4.heap.size)) ∨ (w5.heap.size ≤ b ∧ b < w6.heap.size)) ∧ ∀ i, i < t.is.length → ∀ j x, (cx i)[j]? = some x → w7.cell? ⟨b, off + i * 13 + j, none⟩ = some x) := by
    by_cases e0 : t.is = []
    · exact .inl e0
    · obtain ⟨b, off, e, hMb, hcc⟩ := HAT.out.resolve_left e0
      have hl0 : 0 < t.is.length := List.length_pos_iff.2 e0
      obtain ⟨u0, hu0⟩ : ∃ u, t.is[0]? = some u := ⟨_, List.getElem?_eq_getElem hl0⟩
      have h13 := (HTI.out 0 u0 hu0).tin.size13
      have hbl : b < w.heap.size := cell_lt6 (hcc 0 hl0 0 _ (Array.getElem?_eq_getElem (by omega)))
      refine .inr ⟨b, off, e, fun h => ?_, fun i hi j x hx => HK7.out.cell (hcc i hi j x hx) hMb⟩
      rcases HNW.out b h with h1 | h1
      · exact hMb h1
      · omega
  have HV := hide (svalues_any t.is HIH.out (fun u hu => Nat.le_trans (much_in6 hu) HM.out) (much_len6 HM.out) w7 p _ _ HE7.out HC7.out a cap cx HTI7.out HAT7.out)
  clear HTI7 HAT7
  go_wp2_with fail
  refine HV.out.mono ?_
  rintro e w8 ⟨d', L, rfl, hL, hS⟩
  have HII : Hid (∀ q, Sd.inn { ({ d with vb := (.slice ab t.y.length cb), nb := t.y.length, xb := bv t.y } : Sd) with vt := (.slice at6 t.ks.length ct6), nt := t.ks.length, xt := sv t.ks } p q → M q) := fun q hq => by
    rcases hq with e | e | e | ⟨i, hi, e⟩
    · exact HH.out.mo q (.inl e)
    · exact HH.out.mo q (.inr (.inr (.inr (.inl e))))
    · exact HH.out.mo q (.inr (.inr (.inr (.inr e))))
    · exact (HH.out.ms i hi q e).1
  obtain ⟨av8, cv8, hvv⟩ := row_slice hS.fv
  rw [hL] at hvv
  have HF8 := hide (HF7.out.kp hS.k (fun q e => .inl (HLT.out q (HII.out q e))))
  have HK8 : Hid (Kp M w w8) := HK7.out.trans hS.k (fun q _ e => HII.out q e)
  have hti := hS.tiw HE7.out hL HTB.out HBY.out.byte HSK.out.size HSK.out.max HIL.out (hS.k.owns HE7.out.fb (fun q hq => HE7.out.vb_inn q (.inl hq))) (hS.k.owns HE7.out.ft (fun q hq => HE7.out.vb_inn q (.inr hq)))
  rw [hvv] at hti
  have HTW := hide hti
  have HSE : Hid (Sea w8 p _) := Sea.mk p _ _ (hS.seb HE7.out) (fun i q hq => hS.c i q hq)
  have HZ78 : Hid (w7.heap.size ≤ w8.heap.size) := hS.z
  have HN8 : Hid (∀ q, (((M q ∨ (w3.heap.size ≤ q ∧ q < w4.heap.size)) ∨ (w5.heap.size ≤ q ∧ q < w6.heap.size)) ∨ (w7.heap.size ≤ q ∧ q < w8.heap.size)) → M q ∨ w.heap.size + 3 ≤ q) := fun q hq => by
    rcases hq with hq | hq
    · exact HNW.out q hq
    · have h1 := HZ3.out
      have h2 := HZ34.out
      have h3 := HZ45.out
      have h4 := HZ56.out
      have h5 := HZ67.out
      exact .inr (by omega)
  have HN9 : Hid (∀ q, (((M q ∨ (w3.heap.size ≤ q ∧ q < w4.heap.size)) ∨ (w5.heap.size ≤ q ∧ q < w6.heap.size)) ∨ (w7.heap.size ≤ q ∧ q < w8.heap.size)) → ¬ (q = w.heap.size + 2 ∨ q = w.heap.size + 1)) := fun q hq e => by
    rcases HN8.out q hq with h1 | h1
    · have := HLT.out q h1
      omega
    · omega
  obtain ⟨c9, hc9⟩ : ∃ c9, c9 = (((cs.setIfInBounds 6 (.slice ab t.y.length cb)).setIfInBounds 11 (.slice at6 t.ks.length ct6)).setIfInBounds 12 (.slice av8 t.is.length cv8)) := ⟨_, rfl⟩
  have e9 : c9 = vcs t (.slice ab t.y.length cb) (.slice at6 t.ks.length ct6) (.slice av8 t.is.length cv8) := by rw [hc9, HCS.out]; rfl
  have HF9 : Hid (Fsv w (w8.setCell ⟨w.heap.size + 2, 12, none⟩ (.slice av8 t.is.length cv8)) cs c9) := by rw [hc9]; exact HF8.out.set 12 (.slice av8 t.is.length cv8)
  have c12 : w8.cell? ⟨w.heap.size + 2, 12, none⟩ = some (.slice a t.is.length cap) := blk_cell (j := 12) HF8.out.r (by rw [HCS.out]; rfl)
  have f12 : w8.frozen? ⟨w.heap.size + 2, 12, none⟩ = false := blk_frozen 12 HF8.out.r
  have k9 : Kp (fun q => q = w.heap.size + 2 ∨ q = w.heap.size + 1) w8 (w8.setCell ⟨w.heap.size + 2, 12, none⟩ (.slice av8 t.is.length cv8)) := (Kp.refl _ _).setCell _ _ (fun _ => .inl rfl)
  have HK89 := hide k9
  rw [← e9] at HTW
  have HT9 := hide HTW.out.tin.size13
  have HA9 := hide HTW.out.tin.all1
  rw [hvv]
  clear hS hL hti hvv hc9 e9 k9 HF7 HF8 HE7 HC7 HK7 HII HV q12
  go_upto_region 5 with fail
  generalize w8.setCell ⟨w.heap.size + 2, 12, none⟩ (.slice av8 t.is.length cv8) = w9 at *
  clear c12 f12
  have HV9 : Hid (∀ j u, c9[j]? = some u → w9.cell? ⟨w.heap.size + 2, 0 + j, none⟩ = some u) := fun j u hu => by rw [Nat.zero_add]; exact blk_cell HF9.out.r hu
  have HIN : Hid ((Tryz.prog.info? 65).map (·.size) = some c9.size) := by show _ = _; rw [HT9.out]; exact infoV
  have HZV : Hid (zv.size = c9.size) := by show _ = _; rw [HT9.out]; rfl
  go_wp2_with (first
    | (refine wpList_exec rfl (exec_valAt (g := w.heap.size + 2) (off := 0) (cs := c9) rfl rfl HT9.out HV9.out) ?_)
    | (refine wpList_storeRow rfl rfl (w.heap.size + 1) zv c9 65 rfl rfl HF9.out.z HIN.out HZV.out HA9.out ?_))
  have kx : Kp (fun q => q = w.heap.size + 2 ∨ q = w.heap.size + 1) w8 (w9.setRow (w.heap.size + 1) c9) := HK89.out.trans ((row_kp w9 (w.heap.size + 1) c9).mono (fun _ _ e => .inr e)) (fun _ _ e => e)
  refine bodyPost_ret (end_sv HT9.out (row_same HF9.out.z) rfl) rfl ⟨c9, _, rfl, HSE.out.kp kx HN9.out, fun x hx => (HN8.out x hx).imp id (fun e => by omega), HK8.out.trans kx (fun q hq e => by omega), HTW.out.kp kx HN9.out⟩
theorem svalue_any (t : Tv) : SvC t := by
  have key : ∀ N, ∀ t : Tv, SizeOf.sizeOf t = N → SvC t := by
    intro N
    induction N using Nat.strongRecOn with
    | _ N ihN =>
      intro t hN
      exact svalue_step t fun u hu => ihN _ (by rw [← hN]; exact Tv.is_lt hu) u rfl
  exact key _ t rfl
end
section
open Go.RowKit Go
/-- A value lent, each part of which has blocks of its own: the items' by ranges. -/
inductive Lrv (w : World) : Nat → Nat → Tv → Array Value → Prop
  | mk (lo hi : Nat) (t : Tv) (gy cy gk ck gi ci : Nat) (L : List (Array Value)) (A B : Nat → Nat) (hbd : Tbd t) (hy : Lnt w lo gy cy t.y) (hgy : gy < hi) (hk : w.ownsRow lo 9 1 (.slice (some ⟨gk, 0, none⟩) (t.ks.length + 9) ck) (t.ks.length + 9) (sv (t.ks ++ List.replicate 9 mk9))) (hgk : gk < hi) (hkl : t.ks.length ≤ 100000) (hks : ∀ s ∈ t.ks, s.size ≤ 140737488351232)
      (hv : w.ownsRow lo 65 13 (.slice (some ⟨gi, 0, none⟩) (t.is.length + 9) ci) (t.is.length + 9) (vfl (L ++ List.replicate 9 mv))) (hgi : gi < hi) (hil : t.is.length ≤ 100000) (hL : L.length = t.is.length) (h13 : ∀ c ∈ L, c.size = 13)
      (hab : ∀ i, i < t.is.length → lo ≤ A i ∧ A i ≤ B i ∧ B i ≤ hi) (hdj : ∀ i j, i < j → j < t.is.length → B i ≤ A j) (hoi : ∀ i, i < t.is.length → (gi < A i ∨ B i ≤ gi) ∧ (gy < A i ∨ B i ≤ gy) ∧ (gk < A i ∨ B i ≤ gk))
      (hcs : ∀ (i : Nat) (u : Tv) (c : Array Value), t.is[i]? = some u → L[i]? = some c → Lrv w (A i) (B i) u c) :
      Lrv w lo hi t (vcs t (.slice (some ⟨gy, 0, none⟩) t.y.length cy) (.slice (some ⟨gk, 0, none⟩) t.ks.length ck) (.slice (some ⟨gi, 0, none⟩) t.is.length ci))
theorem Lrv.ltv {w : World} {lo hi : Nat} {t : Tv} {c : Array Value} (h : Lrv w lo hi t c) : Ltv w lo hi t c := by
  induction h with
  | mk lo hi t gy cy gk ck gi ci L A B hbd hy hgy hk hgk hkl hks hv hgi hil hL h13 hab hdj hoi hcs ih =>
    exact Ltv.mk t gy cy gk ck gi ci L hbd hy hgy hk hgk hkl hks hv hgi hil hL h13 (fun i u c h1 h2 => (ih i u c h1 h2).mono (hab i (List.getElem?_eq_some_iff.1 h1).1).1 (hab i (List.getElem?_eq_some_iff.1 h1).1).2.2)
theorem Lrv.kp {w w' : World} {lo hi : Nat} {t : Tv} {c : Array Value} {S : Nat → Prop} (h : Lrv w lo hi t c) (hk : Kp S w w') (hs : ∀ q, lo ≤ q → q < hi → ¬ S q) : Lrv w' lo hi t c := by
  induction h with
  | mk lo hi t gy cy gk ck gi ci L A B hbd hy hgy hkk hgk hkl hks hv hgi hil hL h13 hab hdj hoi hcs ih =>
    exact Lrv.mk lo hi t gy cy gk ck gi ci L A B hbd ⟨hk.owns hy.own (fun q hq => by have h1 := hy.own.lt q hq; have e : gy = q := by simpa [Value.ownBlock] using hq
                                                                                     exact hs q h1.1 (by omega)), hy.byte, hy.len⟩ hgy (hk.owns hkk (fun q hq => by have h1 := hkk.lt q hq; have e : gk = q := by simpa [Value.ownBlock] using hq
                                                                                                                                                                    exact hs q h1.1 (by omega))) hgk hkl hks (hk.owns hv (fun q hq => by have h1 := hv.lt q hq; have e : gi = q := by simpa [Value.ownBlock] using hq
                                                                                                                                                                                                                                         exact hs q h1.1 (by omega))) hgi hil hL h13 hab hdj hoi
      (fun i u c h1 h2 => ih i u c h1 h2 (fun q e1 e2 => hs q (Nat.le_trans (hab i (List.getElem?_eq_some_iff.1 h1).1).1 e1) (Nat.lt_of_lt_of_le e2 (hab i (List.getElem?_eq_some_iff.1 h1).1).2.2)))
theorem Lrv.kept {w w' : World} {lo hi : Nat} {t : Tv} {c : Array Value} (h : Lrv w lo hi t c) (hb : Below w.heap.size w w') : Lrv w' lo hi t c := h.kp (Kp.of_below (S := fun _ => False) hb) (fun _ _ _ h => h)
theorem Lrv.mono {w : World} {lo hi lo' hi' : Nat} {t : Tv} {c : Array Value} (h : Lrv w lo hi t c) (h1 : lo' ≤ lo) (h2 : hi ≤ hi') : Lrv w lo' hi' t c := by
  cases h with
  | mk _ _ _ gy cy gk ck gi ci L A B hbd hy hgy hkk hgk hkl hks hv hgi hil hL h13 hab hdj hoi hcs =>
    exact Lrv.mk lo' hi' t gy cy gk ck gi ci L A B hbd (hy.mono h1) (by omega) (own_mono hkk h1) (by omega) hkl hks (own_mono hv h1) (by omega) hil hL h13 (fun i hi => ⟨Nat.le_trans h1 (hab i hi).1, (hab i hi).2.1, Nat.le_trans (hab i hi).2.2 h2⟩) hdj hoi hcs
end
section
open Go.RowKit Go
theorem Lrv.one {w : World} {lo hi : Nat} {t : Tv} {c : Array Value} (h : Lrv w lo hi t c) : one13 c := h.ltv.one
/-- The parts' ranges: below T, apart of one another and of the row's own block. -/
structure Lrg (wx : World) (B T : Nat) (v : Value) (L : List (Array Value)) (is : List Tv) (A E : Nat → Nat) : Prop where
  r : ∀ j, j < L.length → j < is.length → B ≤ A j ∧ A j ≤ E j ∧ E j ≤ T ∧ ∀ q, v.ownBlock = some q → q < A j ∨ E j ≤ q
  d : ∀ i j, i < j → j < L.length → j < is.length → E i ≤ A j
  v : ∀ (j : Nat) (u : Tv) (c : Array Value), is[j]? = some u → L[j]? = some c → Lrv wx (A j) (E j) u c
/-- What LendValues has in hand. -/
structure Lri (w : World) (B : Nat) (wx : World) (v : Value) (L : List (Array Value)) (is : List Tv) (T : Nat) : Prop where
  o : wx.ownsRow B 65 13 v L.length (vfl L)
  s : ∀ c ∈ L, c.size = 13
  b : Below B w wx
  z : B ≤ wx.heap.size
  t : T ≤ wx.heap.size
  i : ∃ A E, Lrg wx B T v L is A E
theorem Lri.next {w : World} {B : Nat} {wx wy : World} {v : Value} {L : List (Array Value)} {is : List Tv} {T : Nat} (h : Lri w B wx v L is T) (hb : Below wx.heap.size wx wy) : Lri w B wy v L is T := by
  obtain ⟨A, E, hr⟩ := h.i
  exact ⟨(Kp.of_below (S := fun _ => False) hb).owns h.o (fun _ _ hf => hf), h.s, h.b.trans (hb.mono h.z), Nat.le_trans h.z hb.size, Nat.le_trans h.t hb.size, A, E, hr.r, hr.d, fun j u c h1 h2 => (hr.v j u c h1 h2).kept hb⟩
theorem Lri.app {w : World} {B : Nat} {wx wy : World} {v v' : Value} {L : List (Array Value)} {is : List Tv} {T T' lo : Nat} (h : Lri w B wx v L is T) {c : Array Value} (hc : c.size = 13) (ho : wy.ownsRow B 65 13 v' (L.length + 1) (vfl L ++ c.toList)) (hg : wx.grownBy wy v.ownBlock) (hv : v'.ownBlock = v.ownBlock ∨ v'.ownBlock = some wx.heap.size)
    (hT : T ≤ lo) (hl : lo ≤ T') (hB : B ≤ lo) (hT' : T' ≤ wx.heap.size) (hnew : ∀ u, is[L.length]? = some u → (∀ q, v.ownBlock = some q → q < lo) ∧ Lrv wx lo T' u c) : Lri w B wy v' (L ++ [c]) is T' := by
  have hk : Kp (fun q => v.ownBlock = some q) wx wy := (Kp.refl _ _).grown hg (fun k _ h => h)
  have hz := hk.size
  obtain ⟨A, E, hr⟩ := h.i
  have hll : (L ++ [c]).length = L.length + 1 := by simp
  have key : ∀ j, j < L.length + 1 → j < is.length → B ≤ (if j = L.length then lo else A j) ∧ (if j = L.length then lo else A j) ≤ (if j = L.length then T' else E j) ∧ (if j = L.length then T' else E j) ≤ T' ∧ ∀ q, v.ownBlock = some q → q < (if j = L.length then lo else A j) ∨ (if j = L.length then T' else E j) ≤ q := fun j h1 h2 => by
    by_cases e : j = L.length
    · simp only [e, if_pos]
      refine ⟨hB, hl, Nat.le_refl _, fun q hq => .inl ?_⟩
      have h3 : is[L.length]? = some (is[L.length]'(by omega)) := List.getElem?_eq_getElem (by omega)
      exact (hnew _ h3).1 q hq
    · simp only [if_neg e]
      obtain ⟨a1, a2, a3, a4⟩ := hr.r j (by omega) h2
      exact ⟨a1, a2, by omega, a4⟩
  refine ⟨?_, ?_, h.b.grown hg h.z (fun g hg => (h.o.lt g hg).1), Nat.le_trans h.z hz, Nat.le_trans hT' hz, fun j => if j = L.length then lo else A j, fun j => if j = L.length then T' else E j, fun j h1 h2 => ?_, fun i j h0 h1 h2 => ?_, fun j u c' h1 h2 => ?_⟩
  · rw [vfl_app, List.length_append]
    have e : vfl [c] = c.toList := by simp [vfl]
    rw [e]
    exact ho
  · intro d hd
    rcases List.mem_append.1 hd with hd | hd
    · exact h.s d hd
    · simp only [List.mem_singleton] at hd
      rw [hd]
      exact hc
  · obtain ⟨a1, a2, a3, a4⟩ := key j (by omega) h2
    refine ⟨a1, a2, a3, fun q hq => ?_⟩
    rcases hv with hv | hv
    · exact a4 q (by rw [← hv]; exact hq)
    · rw [hv] at hq
      injection hq with hq
      subst hq
      exact .inr (Nat.le_trans a3 hT')
  · have hi : ¬ i = L.length := by omega
    by_cases e : j = L.length
    · simp only [if_neg hi, if_pos e]
      have := (hr.r i (by omega) (by omega)).2.2.1
      omega
    · simp only [if_neg hi, if_neg e]
      exact hr.d i j h0 (by omega) h2
  · have hj1 := (List.getElem?_eq_some_iff.1 h1).1
    have hj2 := (List.getElem?_eq_some_iff.1 h2).1
    obtain ⟨a1, a2, a3, a4⟩ := key j (by omega) hj1
    have hx : Lrv wx (if j = L.length then lo else A j) (if j = L.length then T' else E j) u c' := by
      by_cases e : j = L.length
      · simp only [e, if_pos]
        rw [e] at h1
        rw [e, List.getElem?_append_right (Nat.le_refl _), Nat.sub_self] at h2
        simp at h2
        subst h2
        exact (hnew u h1).2
      · simp only [if_neg e]
        rw [List.getElem?_append_left (by omega)] at h2
        exact hr.v j u c' h1 h2
    exact hx.kp hk (fun q e1 e2 e => by rcases a4 q e with h | h <;> omega)
/-- What LendValues gives. -/
structure LrP (w w' : World) (is : List Tv) (gi ci : Nat) (L : List (Array Value)) : Prop where
  o : w'.ownsRow w.heap.size 65 13 (.slice (some ⟨gi, 0, none⟩) (is.length + 9) ci) (is.length + 9) (vfl (L ++ List.replicate 9 mv))
  n : L.length = is.length
  s : ∀ c ∈ L, c.size = 13
  i : ∃ A E, Lrg w' w.heap.size w'.heap.size (.slice (some ⟨gi, 0, none⟩) (is.length + 9) ci) L is A E
  b : Below w.heap.size w w'
def LendsR (N : Nat) : Prop := ∀ t : Tv, SizeOf.sizeOf t < N → ∀ (w : World) (cs : Array Value), Tin w t cs → tmuch t ≤ 100000 → Calls Tryz.prog 7 #[.agg cs] w fun e w' => ∃ c, e = .returned (.agg c) ∧ Lrv w' w.heap.size w'.heap.size t c ∧ Below w.heap.size w w'
set_option maxRecDepth 1000000 in
set_option maxHeartbeats 1000000 in
theorem lendValuesR_any (N : Nat) (ih : LendsR N) (is : List Tv) (hN : ∀ u ∈ is, SizeOf.sizeOf u < N) (w : World) (v : Value) (hsl : VSl w v is) (hm : tmuchL is ≤ 100000) :
    Calls Tryz.prog 28 #[v] w fun e w' => ∃ gi ci L, e = .returned (.slice (some ⟨gi, 0, none⟩) is.length ci) ∧ LrP w w' is gi ci L := by
  have HIH := hide ih
  have HNN := hide hN
  have HMM := hide hm
  have hlen : is.length ≤ 100000 := Nat.le_trans (tmuchL_len is) hm
  obtain ⟨iV, hi, hz0, hz1, hz2⟩ := infoV_ex
  obtain ⟨⟨a, cap, rfl, hn, hc⟩, hmax⟩ := hsl
  have HF := hide hc
  clear ih hN hm hn hc hmax
  obtain ⟨w0, hmk, hown0, hgr0⟩ := run_make_own (P := Tryz.prog) w w.heap.size 22 65 iV (.agg zv) 13 Tryz.underlying22 hi hz0 hz1 .i64 .i64 (is.length + 9) (by rw [hz2]; omega) (by unfold maxLen; omega) (Nat.le_refl _)
  have ec : ((is.length + 9 : Nat) : Int) = (is.length : Int) + 9 := by omega
  rw [ec] at hmk
  clear ec hi hz0 hz1 hz2
  have hbel0 : Below w.heap.size w w0 := (Below.refl _ _).grown hgr0 (Nat.le_refl _) (fun _ h => by cases h)
  have HL0 : Hid (Lri w w.heap.size w0 _ [] is w.heap.size) := ⟨hown0, by simp, hbel0, hbel0.size, hbel0.size, id, id, fun j h => by simp at h, fun i j _ h => by simp at h, fun j u c _ h => by simp at h⟩
  clear hown0 hgr0
  generalize hB : w.heap.size = B at *
  have HBe := hide hB
  clear hB
  have HBL0 := hide hbel0
  clear hbel0
  go_enter Tryz.func28, Tryz.ntmps28
  go_wp2_with fail
  clear hmk
  go_loopw [3, 4] (fun v ii wx => ∃ (i : Nat) (L : List (Array Value)) (T : Nat), i ≤ is.length ∧ ii = .int .i64 (i : Nat) ∧ Hid (L.length = i) ∧ Hid (Lri w B wx v L is T)) (fun _ ii _ => is.length - (intOf ii).toNat)
  case atStart => exact ⟨0, [], _, by omega, rfl, rfl, HL0⟩
  case round =>
    obtain ⟨i, L, T, hi, rfl, HLn, HL⟩ := hrel
    clear HL0 HBL0
    by_cases hlt : i < is.length
    · as_aux_lemma =>
      have g1 : (i : Int) < (is.length : Int) := by omega
      obtain ⟨u, hu⟩ : ∃ u, is[i]? = some u := ⟨is[i], List.getElem?_eq_getElem hlt⟩
      obtain ⟨b, off, rfl, hcells⟩ := HF.out.resolve_left (fun h => by rw [h] at hlt; simp at hlt)
      obtain ⟨cu, hcu, hcc⟩ := hcells i u hu
      have hkb : ∀ p x, w.cell? p = some x → wr.cell? p = some x := keep_below (by have e := HL.out.b; rw [← HBe.out] at e; exact e)
      have HCC : Hid (∀ j x, cu[j]? = some x → wr.cell? ⟨b, off + i * 13 + j, none⟩ = some x) := fun j x hx => hkb _ _ (hcc j x hx)
      have hmem := List.mem_of_getElem? hu
      have HSZ : Hid (cu.size = 13) := by
        obtain ⟨y1, y2, y3, e, _⟩ := hcu.parts
        show _ = _
        rw [e]
        rfl
      have HCA := hide (HIH.out u (HNN.out u hmem) wr cu (hcu.move hkb) (Nat.le_trans (tmuchL_mem hmem) HMM.out))
      have HU := hide hu
      clear hu hcells hcu hcc hmem hkb
      obtain ⟨ax, cx, hvx⟩ : ∃ ax cx, u3 = .slice ax L.length cx := by
        rcases HL.out.o.2 with ⟨e, h0⟩ | ⟨g, c, cur, e, _⟩
        · exact ⟨none, 0, by rw [e, h0]⟩
        · exact ⟨_, c, e⟩
      subst hvx
      go_wp2_with (refine wpList_valAt rfl rfl b (off + i * 13) cu rfl HSZ.out HCC.out ?_)
      refine HCA.out.mono ?_
      rintro e w5 ⟨c, rfl, hlt5, hb5⟩
      have HL5 := hide (HL.out.next hb5)
      have HC5 := hide hlt5
      have HO := hide hlt5.one
      have HQ : Hid (∀ q, (Value.slice ax L.length cx).ownBlock = some q → q < wr.heap.size) := fun q hq => (HL.out.o.lt q hq).2
      have HZ5 : Hid (B ≤ wr.heap.size ∧ T ≤ wr.heap.size ∧ wr.heap.size ≤ w5.heap.size) := ⟨HL.out.z, HL.out.t, hb5.size⟩
      clear hlt5 hb5 HL HCC HCA
      have HL6 := hide (HL5.out.next (below_alloc4 w5 (.cells c 65)))
      have HC6 : Hid (Lrv (w5.alloc (.cells c 65)) wr.heap.size w5.heap.size u c) := HC5.out.kept (below_alloc4 w5 _)
      have HG6 : Hid ((w5.alloc (.cells c 65)).heap[w5.heap.size]? = some (.cells c 65 (0, 0))) := heap_alloc_new w5 _
      have HS6 : Hid (w5.heap.size ≤ (w5.alloc (.cells c 65)).heap.size) := (below_alloc4 w5 (.cells c 65)).size
      have HLL : Hid (L.length < 1099511627) := by have := HLn.out; show _ < _; omega
      clear HL5 HC5
      go_wp2_with (first
        | (refine wpList_val1 rfl rfl c HO.out.1 rfl ?_)
        | (at_builtin; refine append_val rfl _ _ rfl B _ L.length (vfl L) rfl HL6.out.o w5.heap.size c HO.out rfl HG6.out HLL.out HL6.out.z ?_))
      intro v7 w7 ho7 hg7 hv7
      have HL7 : Hid (Lri w B w7 v7 (L ++ [c]) is w5.heap.size) := HL6.out.app (lo := wr.heap.size) HO.out.1 ho7 hg7 (by simpa using hv7) HZ5.out.2.1 HZ5.out.2.2 HZ5.out.1 HS6.out (fun u' hu' => by
        rw [HLn.out, HU.out] at hu'
        injection hu' with hu'
        subst hu'
        exact ⟨HQ.out, HC6.out⟩)
      have HLn7 : Hid ((L ++ [c]).length = i + 1) := by show _ = _; rw [List.length_append, HLn.out]; rfl
      clear ho7 hg7 hv7 HL6 HC6 HG6
      go_wp2_with fail
      go_roundw
      case rel => exact ⟨i + 1, L ++ [c], _, by omega, by go_num, HLn7, HL7⟩
      case measure => simp [intOf]; omega
    · have g1 : ¬ (i : Int) < (is.length : Int) := by omega
      have HLe : Hid (L.length = is.length) := by have := HLn.out; show _ = _; omega
      go_wp2_with fail
      go_loopw [3, 5] (fun v ii wx => ∃ (k : Nat) (T : Nat), k ≤ 9 ∧ ii = .int .i64 (k : Nat) ∧ Hid (Lri w B wx v (L ++ List.replicate k mv) is T)) (fun _ ii _ => 9 - (intOf ii).toNat)
      case atStart => exact ⟨0, T, by omega, rfl, by simpa using HL⟩
      case round => as_aux_lemma =>
        rename World => wz
        clear HL
        clear T
        obtain ⟨k, T, hk, rfl, HK⟩ := hrel
        have HKL : Hid ((L ++ List.replicate k mv).length = is.length + k) := by show _ = _; rw [List.length_append, HLe.out, List.length_replicate]
        have HRS : Hid (L ++ List.replicate (k + 1) mv = (L ++ List.replicate k mv) ++ [mv]) := by show _ = _; rw [List.replicate_succ', List.append_assoc]
        by_cases hlt9 : k < 9
        · have g2 : (k : Int) < 9 := by omega
          generalize hLk : L ++ List.replicate k mv = Lk at *
          clear hLk
          obtain ⟨ax, cx, hvx⟩ : ∃ ax cx, u3 = .slice ax Lk.length cx := by
            rcases HK.out.o.2 with ⟨e, h0⟩ | ⟨g, c, cur, e, _⟩
            · exact ⟨none, 0, by rw [e, h0]⟩
            · exact ⟨_, c, e⟩
          subst hvx
          have HL6 := hide (HK.out.next (below_alloc4 wz (.cells mv 65)))
          have HG6 : Hid ((wz.alloc (.cells mv 65)).heap[wz.heap.size]? = some (.cells mv 65 (0, 0))) := heap_alloc_new wz _
          have HLL : Hid (Lk.length < 1099511627) := by have := HKL.out; show _ < _; omega
          go_wp2_with (first
            | (refine wpList_val1 rfl rfl mv rfl rfl ?_)
            | (at_builtin; refine append_val rfl _ _ rfl B _ Lk.length (vfl Lk) rfl HL6.out.o wz.heap.size mv one_mv rfl HG6.out HLL.out HL6.out.z ?_))
          intro v7 w7 ho7 hg7 hv7
          have HL7 : Hid (Lri w B w7 v7 (Lk ++ [mv]) is (wz.alloc (.cells mv 65)).heap.size) := HL6.out.app (lo := (wz.alloc (.cells mv 65)).heap.size) rfl ho7 hg7 (by simpa using hv7) HL6.out.t (Nat.le_refl _) HL6.out.z (Nat.le_refl _) (fun u' hu' => by
            rw [HKL.out, List.getElem?_eq_none (by omega)] at hu'
            cases hu')
          rw [← HRS.out] at HL7
          clear ho7 hg7 hv7 HL6 HG6 HK
          go_wp2_with fail
          go_roundw
          case rel => exact ⟨k + 1, _, by omega, by go_num, HL7⟩
          case measure => simp [intOf]; omega
        · have g2 : ¬ (k : Int) < 9 := by omega
          have hk9 : k = 9 := by omega
          have HK9 : Hid (Lri w B wz u3 (L ++ List.replicate 9 mv) is T) := by have e := HK.out; rw [hk9] at e; exact e
          have HN9 : Hid ((L ++ List.replicate 9 mv).length = is.length + 9) := by have e := HKL.out; rw [hk9] at e; exact e
          clear HK HKL hk9 HRS
          obtain ⟨gi, ci, hvx, hcx⟩ : ∃ gi ci, u3 = .slice (some ⟨gi, 0, none⟩) (is.length + 9) ci ∧ is.length + 9 ≤ ci := by
            have ho := HK9.out.o
            rw [HN9.out] at ho
            rcases ho.2 with ⟨e, h0⟩ | ⟨g, c, cur, e, _, _, h1, _⟩
            · omega
            · exact ⟨g, c, e, h1⟩
          subst hvx
          have hcx2 : is.length ≤ ci := by omega
          have HP : Hid (LrP w wz is gi ci L) := by
            have ho := HK9.out.o
            rw [HN9.out] at ho
            obtain ⟨A, E, hr⟩ := HK9.out.i
            have hle := HLe.out
            have hn9 := HN9.out
            refine ⟨by rw [HBe.out]; exact ho, HLe.out, fun c hc => HK9.out.s c (List.mem_append_left _ hc), ⟨A, E, fun j h1 h2 => ?_, fun i j h0 h1 h2 => hr.d i j h0 (by omega) h2, fun j u c h1 h2 => ?_⟩, by rw [HBe.out]; exact HK9.out.b⟩
            · obtain ⟨a1, a2, a3, a4⟩ := hr.r j (by omega) h2
              exact ⟨by rw [HBe.out]; exact a1, a2, Nat.le_trans a3 HK9.out.t, a4⟩
            · have hj := (List.getElem?_eq_some_iff.1 h2).1
              exact hr.v j u c h1 (by rw [List.getElem?_append_left hj]; exact h2)
          go_wp2_with fail
          go_ret
          exact ⟨gi, ci, rfl, L, HP.out⟩
set_option maxRecDepth 1000000 in
set_option maxHeartbeats 1000000 in
theorem lendValueR_step (N : Nat) (ih : LendsR N) (t : Tv) (hN : SizeOf.sizeOf t = N) (w : World) (cs : Array Value) (ht : Tin w t cs) (hm : tmuch t ≤ 100000) :
    Calls Tryz.prog 7 #[.agg cs] w fun e w' => ∃ c, e = .returned (.agg c) ∧ Lrv w' w.heap.size w'.heap.size t c ∧ Below w.heap.size w w' := by
  have hme := tmuch_eq t
  have HIH := hide ih
  have HNN : Hid (∀ u ∈ t.is, SizeOf.sizeOf u < N) := fun u hu => by rw [← hN]; exact Tv.is_lt hu
  have HKL : Hid (t.ks.length ≤ 100000) := by show _ ≤ _; omega
  have HIL : Hid (t.is.length ≤ 100000) := by have := tmuchL_len t.is; show _ ≤ _; omega
  have HML : Hid (tmuchL t.is ≤ 100000) := by show _ ≤ _; omega
  clear ih hN hme hm
  obtain ⟨vy, vk, vi, rfl, hy, hk, hv, hb⟩ := ht.parts
  have HY := hide hy
  have HK := hide hk
  have HV := hide hv
  have HBD := hide hb
  obtain ⟨⟨ay, cy, rfl, _, _⟩, _, _⟩ := hy
  obtain ⟨⟨ak, ck, rfl, _, _⟩, _, _⟩ := hk
  obtain ⟨⟨ai, ci, rfl, _, _⟩, _⟩ := hv
  clear ht hb
  unfold vcs
  have HW0 : Hid (Lw w (((w.alloc (.cells #[.int .i64 t.k, .bool t.f, .bool t.g, .int .u64 (t.n : Nat), .int .u64 (t.b : Nat), .string t.s, .slice ay t.y.length cy, .int .i64 t.l.v, .int .u64 (t.l.c : Nat), .int .u64 (t.l.h : Nat), .string (nstr t.l.d), .slice ak t.ks.length ck, .slice ai t.is.length ci] 65)).alloc (.cells #[.int .i64 0, .bool false, .bool false, .int .u64 0, .int .u64 0, .string ⟨#[]⟩, .slice none 0 0, .int .i64 0, .int .u64 0, .int .u64 0, .string ⟨#[]⟩, .slice none 0 0, .slice none 0 0] 65)).alloc (.cells #[.int .i64 t.k, .bool t.f, .bool t.g, .int .u64 (t.n : Nat), .int .u64 (t.b : Nat), .string t.s, .slice ay t.y.length cy, .int .i64 t.l.v, .int .u64 (t.l.c : Nat), .int .u64 (t.l.h : Nat), .string (nstr t.l.d), .slice ak t.ks.length ck, .slice ai t.is.length ci] 65)) (vcs t (.slice ay t.y.length cy) (.slice ak t.ks.length ck) (.slice ai t.is.length ci)) (vcs t (.slice ay t.y.length cy) (.slice ak t.ks.length ck) (.slice ai t.is.length ci))) := Lw.start w _
  have HZ0 : Hid ((((w.alloc (.cells #[.int .i64 t.k, .bool t.f, .bool t.g, .int .u64 (t.n : Nat), .int .u64 (t.b : Nat), .string t.s, .slice ay t.y.length cy, .int .i64 t.l.v, .int .u64 (t.l.c : Nat), .int .u64 (t.l.h : Nat), .string (nstr t.l.d), .slice ak t.ks.length ck, .slice ai t.is.length ci] 65)).alloc (.cells #[.int .i64 0, .bool false, .bool false, .int .u64 0, .int .u64 0, .string ⟨#[]⟩, .slice none 0 0, .int .i64 0, .int .u64 0, .int .u64 0, .string ⟨#[]⟩, .slice none 0 0, .slice none 0 0] 65)).alloc (.cells #[.int .i64 t.k, .bool t.f, .bool t.g, .int .u64 (t.n : Nat), .int .u64 (t.b : Nat), .string t.s, .slice ay t.y.length cy, .int .i64 t.l.v, .int .u64 (t.l.c : Nat), .int .u64 (t.l.h : Nat), .string (nstr t.l.d), .slice ak t.ks.length ck, .slice ai t.is.length ci] 65)).heap.size = w.heap.size + 3) := by show _ = _; simp
  go_enter Tryz.func7, Tryz.ntmps7
  go_wp2_with fail
  generalize ((w.alloc (.cells #[.int .i64 t.k, .bool t.f, .bool t.g, .int .u64 (t.n : Nat), .int .u64 (t.b : Nat), .string t.s, .slice ay t.y.length cy, .int .i64 t.l.v, .int .u64 (t.l.c : Nat), .int .u64 (t.l.h : Nat), .string (nstr t.l.d), .slice ak t.ks.length ck, .slice ai t.is.length ci] 65)).alloc (.cells #[.int .i64 0, .bool false, .bool false, .int .u64 0, .int .u64 0, .string ⟨#[]⟩, .slice none 0 0, .int .i64 0, .int .u64 0, .int .u64 0, .string ⟨#[]⟩, .slice none 0 0, .slice none 0 0] 65)).alloc (.cells #[.int .i64 t.k, .bool t.f, .bool t.g, .int .u64 (t.n : Nat), .int .u64 (t.b : Nat), .string t.s, .slice ay t.y.length cy, .int .i64 t.l.v, .int .u64 (t.l.c : Nat), .int .u64 (t.l.h : Nat), .string (nstr t.l.d), .slice ak t.ks.length ck, .slice ai t.is.length ci] 65) = w3 at *
  have hz3 := HZ0.out
  refine (lend_any w3 _ t.y (HY.out.move (keep_below HW0.out.b)) HBD.out.y).mono ?_
  rintro e w4 ⟨gy, cy2, rfl, ho4, hb4⟩
  have HY4 : Hid (Lnt w4 w3.heap.size gy cy2 t.y) := ⟨ho4, HY.out.byte, HBD.out.y⟩
  have hs4 := hb4.size
  have hg4 := ho4.lt gy rfl
  have HGY : Hid (w.heap.size + 3 ≤ gy ∧ gy < w4.heap.size) := ⟨by omega, hg4.2⟩
  have HW4 := hide (HW0.out.next hb4)
  have HS4 : Hid (w.heap.size + 3 ≤ w4.heap.size) := by show _ ≤ _; omega
  clear ho4 hb4 HW0 hs4 hg4
  have c6 := blk_cell (j := 6) HW4.out.x rfl
  have f6 := blk_frozen 6 HW4.out.x
  have hset := HW4.out.set 6 (.slice (some ⟨gy, 0, none⟩) t.y.length cy2)
  rw [(setv t _ _ _ _).1] at hset
  have HW5 := hide hset.1
  have HY5 := hide (HY4.out.kp hset.2 (by have := HGY.out; omega))
  have HS5 : Hid (w.heap.size + 3 ≤ (w4.setCell ⟨w.heap.size + 1 + 1, 6, none⟩ (.slice (some ⟨gy, 0, none⟩) t.y.length cy2)).heap.size ∧ gy < (w4.setCell ⟨w.heap.size + 1 + 1, 6, none⟩ (.slice (some ⟨gy, 0, none⟩) t.y.length cy2)).heap.size) := by
    have h1 := hset.2.size
    have h2 := HS4.out
    have h3 := HGY.out
    exact ⟨by omega, by omega⟩
  have c11 := blk_cell (j := 11) HW5.out.a rfl
  clear hset HW4 HY4
  go_wp2_with fail
  clear c6 f6 c11
  generalize w4.setCell ⟨w.heap.size + 1 + 1, 6, none⟩ (.slice (some ⟨gy, 0, none⟩) t.y.length cy2) = w5 at *
  refine (lendTexts_any w5 _ t.ks (HK.out.move (keep_below HW5.out.b)) HKL.out).mono ?_
  rintro e w6 ⟨vk6, rfl, hk6, hb6⟩
  obtain ⟨⟨gk, ck2, rfl, ho6⟩, _, hks6⟩ := hk6
  have hg6 := ho6.lt gk rfl
  have hs6 := hb6.size
  have HGK : Hid (w.heap.size + 3 ≤ gk ∧ gk < w6.heap.size ∧ gy < w6.heap.size ∧ w.heap.size + 3 ≤ w6.heap.size) := by
    have h1 := HS5.out
    exact ⟨by omega, by omega, by omega, by omega⟩
  have HK6 := hide (own_mono ho6 (show w.heap.size + 3 ≤ w5.heap.size by have := HS5.out; omega))
  have HY6 := hide (HY5.out.kp (Kp.of_below (S := fun _ => False) hb6) (fun h => h))
  have HW6 := hide (HW5.out.next hb6)
  have HKS := hide hks6
  clear ho6 hb6 hg6 hs6 HW5 HY5 hks6 HS5
  have c11 := blk_cell (j := 11) HW6.out.x rfl
  have f11 := blk_frozen 11 HW6.out.x
  have hset := HW6.out.set 11 (.slice (some ⟨gk, 0, none⟩) t.ks.length ck2)
  rw [(setv t _ _ _ _).2.1] at hset
  have HW7 := hide hset.1
  have HY7 := hide (HY6.out.kp hset.2 (by have := HGY.out; omega))
  have HK7 := hide (hset.2.owns HK6.out (fun q hq e => by have e2 := sl_blk hq; have := HGK.out; omega))
  have HS7 : Hid (gk < (w6.setCell ⟨w.heap.size + 1 + 1, 11, none⟩ (.slice (some ⟨gk, 0, none⟩) t.ks.length ck2)).heap.size ∧ gy < (w6.setCell ⟨w.heap.size + 1 + 1, 11, none⟩ (.slice (some ⟨gk, 0, none⟩) t.ks.length ck2)).heap.size ∧ w.heap.size + 3 ≤ (w6.setCell ⟨w.heap.size + 1 + 1, 11, none⟩ (.slice (some ⟨gk, 0, none⟩) t.ks.length ck2)).heap.size) := by
    have h1 := hset.2.size
    have h2 := HGK.out
    exact ⟨by omega, by omega, by omega⟩
  have c12 := blk_cell (j := 12) HW7.out.a rfl
  clear hset HW6 HY6 HK6
  go_wp2_with fail
  clear c11 f11 c12
  generalize w6.setCell ⟨w.heap.size + 1 + 1, 11, none⟩ (.slice (some ⟨gk, 0, none⟩) t.ks.length ck2) = w7 at *
  refine (lendValuesR_any N HIH.out t.is HNN.out w7 _ (HV.out.move (keep_below HW7.out.b)) HML.out).mono ?_
  rintro e w8 ⟨gi, ci2, L, rfl, hp8⟩
  have hg8 := hp8.o.lt gi rfl
  have hs8 := hp8.b.size
  have HGI : Hid (w.heap.size + 3 ≤ gi ∧ gi < w8.heap.size ∧ gk < w8.heap.size ∧ gy < w8.heap.size) := by
    have h1 := HS7.out
    exact ⟨by omega, by omega, by omega, by omega⟩
  have HP8 := hide hp8
  have HY8 := hide (HY7.out.kp (Kp.of_below (S := fun _ => False) hp8.b) (fun h => h))
  have HK8 := hide ((Kp.of_below (S := fun _ => False) hp8.b).owns HK7.out (fun _ _ h => h))
  have HW8 := hide (HW7.out.next hp8.b)
  have HB7 : Hid (w.heap.size + 3 ≤ w7.heap.size ∧ gk < w7.heap.size ∧ gy < w7.heap.size) := ⟨HS7.out.2.2, HS7.out.1, HS7.out.2.1⟩
  clear hp8 hg8 hs8 HW7 HY7 HK7 HS7
  have c12 := blk_cell (j := 12) HW8.out.x rfl
  have f12 := blk_frozen 12 HW8.out.x
  have hset := HW8.out.set 12 (.slice (some ⟨gi, 0, none⟩) t.is.length ci2)
  rw [(setv t _ _ _ _).2.2] at hset
  have HW9 := hide hset.1
  have HLT : Hid (Lrv (w8.setCell ⟨w.heap.size + 1 + 1, 12, none⟩ (.slice (some ⟨gi, 0, none⟩) t.is.length ci2)) (w.heap.size + 3) w8.heap.size t (vcs t (.slice (some ⟨gy, 0, none⟩) t.y.length cy2) (.slice (some ⟨gk, 0, none⟩) t.ks.length ck2) (.slice (some ⟨gi, 0, none⟩) t.is.length ci2))) := by
    have h1 := HGI.out
    have h2 := HGY.out
    have h3 := HGK.out
    have h4 := HB7.out
    obtain ⟨A, E, hr⟩ := HP8.out.i
    have hn := HP8.out.n
    refine Lrv.mk _ _ t gy cy2 gk ck2 gi ci2 L A E HBD.out ?_ (by omega) ?_ (by omega) HKL.out HKS.out ?_ (by omega) HIL.out HP8.out.n HP8.out.s (fun i hi => ?_) (fun i j h5 h6 => hr.d i j h5 (by omega) h6) (fun i hi => ?_) (fun i u c e1 e2 => ?_)
    · exact (HY8.out.kp hset.2 (by omega)).mono (by omega)
    · exact hset.2.owns HK8.out (fun q hq e => by have e2 := sl_blk hq; omega)
    · exact own_mono (hset.2.owns HP8.out.o (fun q hq e => by have e2 := sl_blk hq; omega)) (by omega)
    · obtain ⟨a1, a2, a3, a4⟩ := hr.r i (by omega) hi
      exact ⟨by omega, a2, a3⟩
    · obtain ⟨a1, a2, a3, a4⟩ := hr.r i (by omega) hi
      exact ⟨a4 gi rfl, .inl (by omega), .inl (by omega)⟩
    · have hi := (List.getElem?_eq_some_iff.1 e1).1
      obtain ⟨a1, a2, a3, a4⟩ := hr.r i (by omega) hi
      exact (hr.v i u c e1 e2).kp hset.2 (fun q h5 h6 e => by omega)
  have HS9 : Hid (w8.heap.size ≤ (w8.setCell ⟨w.heap.size + 1 + 1, 12, none⟩ (.slice (some ⟨gi, 0, none⟩) t.is.length ci2)).heap.size) := hset.2.size
  clear hset HW8 HY8 HK8 HP8
  have HXL : Hid (∀ j v, (vcs t (.slice (some ⟨gy, 0, none⟩) t.y.length cy2) (.slice (some ⟨gk, 0, none⟩) t.ks.length ck2) (.slice (some ⟨gi, 0, none⟩) t.is.length ci2))[j]? = some v → (w8.setCell ⟨w.heap.size + 1 + 1, 12, none⟩ (.slice (some ⟨gi, 0, none⟩) t.is.length ci2)).cell? ⟨w.heap.size + 1 + 1, 0 + j, none⟩ = some v) := fun j v hv => by
    rw [Nat.zero_add]
    exact blk_cell HW9.out.x hv
  have HON := hide HLT.out.one
  have HONA : Hid ((vcs t (.slice (some ⟨gy, 0, none⟩) t.y.length cy2) (.slice (some ⟨gk, 0, none⟩) t.ks.length ck2) (.slice (some ⟨gi, 0, none⟩) t.is.length ci2)).all (·.oneCell') = true) := by
    show _ = _
    rw [Array.all_eq_true']
    intro u hu
    exact HON.out.2 u (by simpa using hu)
  have HIN : Hid ((Tryz.prog.info? 65).map (·.size) = some (vcs t (.slice (some ⟨gy, 0, none⟩) t.y.length cy2) (.slice (some ⟨gk, 0, none⟩) t.ks.length ck2) (.slice (some ⟨gi, 0, none⟩) t.is.length ci2)).size) := infoV
  have HR9 := hide HW9.out.r
  have HZV : Hid (zv.size = (vcs t (.slice (some ⟨gy, 0, none⟩) t.y.length cy2) (.slice (some ⟨gk, 0, none⟩) t.ks.length ck2) (.slice (some ⟨gi, 0, none⟩) t.is.length ci2)).size) := rfl
  go_wp2_with (first
    | (refine wpList_valAt rfl rfl (w.heap.size + 1 + 1) 0 (vcs t (.slice (some ⟨gy, 0, none⟩) t.y.length cy2) (.slice (some ⟨gk, 0, none⟩) t.ks.length ck2) (.slice (some ⟨gi, 0, none⟩) t.is.length ci2)) rfl rfl HXL.out ?_)
    | (refine wpList_storeRow rfl rfl (w.heap.size + 1) zv (vcs t (.slice (some ⟨gy, 0, none⟩) t.y.length cy2) (.slice (some ⟨gk, 0, none⟩) t.ks.length ck2) (.slice (some ⟨gi, 0, none⟩) t.is.length ci2)) 65 rfl rfl HR9.out HIN.out HZV.out HONA.out ?_))
  have hkr := row_kp (w8.setCell ⟨w.heap.size + 1 + 1, 12, none⟩ (.slice (some ⟨gi, 0, none⟩) t.is.length ci2)) (w.heap.size + 1) (vcs t (.slice (some ⟨gy, 0, none⟩) t.y.length cy2) (.slice (some ⟨gk, 0, none⟩) t.ks.length ck2) (.slice (some ⟨gi, 0, none⟩) t.is.length ci2))
  have hzr := hkr.size
  have h89 := HS9.out
  exact bodyPost_ret (end_v1 rfl (row_same HR9.out) rfl) rfl ⟨_, rfl, (HLT.out.kp hkr (fun q h1 h2 e => by omega)).mono (by omega) (by omega), HW9.out.b.trans (hkr.below HW9.out.b.size (fun q e => by omega))⟩
theorem lendValueR_any (t : Tv) (w : World) (cs : Array Value) (ht : Tin w t cs) (hm : tmuch t ≤ 100000) :
    Calls Tryz.prog 7 #[.agg cs] w fun e w' => ∃ c, e = .returned (.agg c) ∧ Lrv w' w.heap.size w'.heap.size t c ∧ Below w.heap.size w w' := by
  have h : ∀ N, LendsR N := by
    intro N
    induction N with
    | zero => exact fun t h => absurd h (by omega)
    | succ N ih =>
      intro t htN w cs ht hm
      exact lendValueR_step (SizeOf.sizeOf t) (fun u hu => ih u (by omega)) t rfl w cs ht hm
  exact h _ t (Nat.lt_succ_self _) w cs ht hm
end
section
open Go.RowKit
set_option maxRecDepth 1000000 in
set_option maxHeartbeats 400000 in
/-- What was lent is written over. -/
theorem over_any {w : World} {base g cap : Nat} {xs : List Nat} (h : Lnt w base g cap xs) :
    Calls Tryz.prog 13 #[.slice (some ⟨g, 0, none⟩) xs.length cap] w fun e w' => e = .returned (.tuple #[]) ∧ Lnt w' base g cap (List.replicate xs.length 238) ∧ Kp (fun k => k = g) w w' := by
  have HH := hide h
  have hmx : xs.length ≤ 9223372036854775807 := by have := h.len; omega
  clear h
  have HLE : Hid ((List.replicate xs.length 238).length = xs.length) := by show _ = _; simp
  have HGD : Hid (∀ k, k < xs.length → (List.replicate xs.length 238).getD k 0 = 238) := fun k hk => by simp [List.getD, hk]
  have HYB : Hid (∀ y ∈ List.replicate xs.length 238, y < 256) := fun y hy => by have := List.eq_of_mem_replicate hy; omega
  generalize List.replicate xs.length 238 = ys at *
  go_enter Tryz.func13, Tryz.ntmps13
  go_wp2
  go_loopw [2] (fun i wr => ∃ k : Nat, k ≤ xs.length ∧ i = .int .i64 k ∧ wr.ownsRow base 5 1 (.slice (some ⟨g, 0, none⟩) (xs.length + 70) cap) (xs.length + 70) (bv (ys.take k ++ xs.drop k ++ marks)) ∧ Kp (fun q => q = g) w wr) (fun i _ => xs.length - (intOf i).toNat)
  case atStart => exact ⟨0, Nat.zero_le _, rfl, by simpa using HH.out.own, Kp.refl _ _⟩
  case round =>
    obtain ⟨k, hk, rfl, hown, hkp⟩ := hrel
    have HO := hide hown
    have HK := hide hkp
    clear hown hkp
    by_cases hlt : k < xs.length
    · have hlt' : (k : Int) < (xs.length : Int) := by omega
      have hlty : k < ys.length := by have := HLE.out; omega
      have hget : (bv (ys.take k ++ xs.drop k ++ marks))[k]? = some (.int .u8 ((xs.getD k 0 : Nat) : Int)) := by
        have hl : k < (ys.take k ++ xs.drop k ++ marks).length := by simp [marks]; omega
        rw [bv_get hl]
        congr 3
        have hl2 : (ys.take k).length = k := by rw [List.length_take]; omega
        rw [List.append_assoc]
        simp only [List.getD]
        rw [List.getElem?_append_right (by omega), hl2, Nat.sub_self, List.getElem?_append_left (by rw [List.length_drop]; omega)]
        simp
      obtain ⟨cg, fg⟩ := own_cell HO.out hget
      have hset := into_set xs ys k hlt hlty
      rw [HGD.out k hlt] at hset
      have HSE := hide hset
      clear hset hget
      generalize xs.getD k 0 = old at *
      go_wp2
      go_roundw
      case rel => exact ⟨k + 1, by omega, by go_num, by rw [← HSE.out]; exact own_set _ HO.out, HK.out.setCell _ _ (fun _ => rfl)⟩
      case measure => simp [intOf]; omega
    · have hlt' : ¬ (k : Int) < (xs.length : Int) := by omega
      go_wp2
      go_end0
      refine ⟨rfl, ⟨?_, HYB.out, by rw [HLE.out]; exact HH.out.len⟩, HK.out⟩
      have h := HO.out
      rw [List.take_of_length_le (by have := HLE.out; omega), List.drop_of_length_le (by omega), List.append_nil] at h
      rw [HLE.out]
      exact h
end
section
open Go.RowKit Go
set_option maxRecDepth 1000000 in
set_option maxHeartbeats 1000000 in
/-- OverTexts: a row of texts is written over. -/
theorem overTexts_any {w : World} {base g cap m n : Nat} {xs : List Value} (h : w.ownsRow base 9 1 (.slice (some ⟨g, 0, none⟩) m cap) m xs) (hn : n ≤ m) (hm : m ≤ 1000000) :
    Calls Tryz.prog 35 #[.slice (some ⟨g, 0, none⟩) n cap] w fun e w' => e = .returned (.tuple #[]) ∧ Kp (fun k => k = g) w w' := by
  have HH := hide h
  have HN := hide hn
  clear h
  go_enter Tryz.func35, Tryz.ntmps35
  go_wp2_with fail
  go_loopw [2] (fun i wr => ∃ k : Nat, k ≤ n ∧ i = .int .i64 k ∧ Hid (∃ ys, wr.ownsRow base 9 1 (.slice (some ⟨g, 0, none⟩) m cap) m ys ∧ Kp (fun q => q = g) w wr)) (fun i _ => n - (intOf i).toNat)
  case atStart => exact ⟨0, Nat.zero_le _, rfl, xs, HH.out, Kp.refl _ _⟩
  case round =>
    rename World => wr
    obtain ⟨k, hk, rfl, HR⟩ := hrel
    obtain ⟨ys, hown, hkp⟩ := HR.out
    have HO := hide hown
    have HK := hide hkp
    have hyl : ys.length = m := by have := hown.1; omega
    clear hown hkp HR
    by_cases hlt : k < n
    · have hlt' : (k : Int) < (n : Int) := by omega
      obtain ⟨y, hy⟩ : ∃ y, ys[k]? = some y := ⟨_, List.getElem?_eq_getElem (show k < ys.length by have := HN.out; omega)⟩
      obtain ⟨cg, fg⟩ := own_cell HO.out hy
      have HR2 : Hid (∃ zs, (wr.setCell ⟨g, k, none⟩ (.string ⟨#[111, 118, 101, 114]⟩)).ownsRow base 9 1 (.slice (some ⟨g, 0, none⟩) m cap) m zs ∧ Kp (fun q => q = g) w (wr.setCell ⟨g, k, none⟩ (.string ⟨#[111, 118, 101, 114]⟩))) := ⟨_, own_set _ HO.out, HK.out.setCell _ _ (fun _ => rfl)⟩
      clear hyl hy
      go_wp2_with fail
      go_roundw
      case rel => exact ⟨k + 1, by omega, by go_num, HR2⟩
      case measure => simp [intOf]; omega
    · have hlt' : ¬ (k : Int) < (n : Int) := by omega
      go_wp2_with fail
      go_end0
      exact ⟨rfl, HK.out⟩
end
section
open Go.RowKit Go
/-- What is written over an item. -/
def ov13 : Array Value := #[.int .i64 778, .bool false, .bool false, .int .u64 0, .int .u64 0, .string ⟨#[]⟩, .slice none 0 0, .int .i64 0, .int .u64 0, .int .u64 0, .string ⟨#[]⟩, .slice none 0 0, .slice none 0 0]
theorem one_ov : one13 ov13 := ⟨rfl, fun u hu => by
  simp only [ov13, List.mem_cons, List.not_mem_nil, or_false] at hu
  rcases hu with rfl | rfl | rfl | rfl | rfl | rfl | rfl | rfl | rfl | rfl | rfl | rfl | rfl <;> rfl⟩
/-- The lent items of a value. -/
structure Ovh (w : World) (lo hi gi ci : Nat) (L : List (Array Value)) (is : List Tv) (A B : Nat → Nat) : Prop where
  o : w.ownsRow lo 65 13 (.slice (some ⟨gi, 0, none⟩) (is.length + 9) ci) (is.length + 9) (vfl (L ++ List.replicate 9 mv))
  lt : gi < hi
  il : is.length ≤ 100000
  n : L.length = is.length
  s : ∀ c ∈ L, c.size = 13
  ab : ∀ i, i < is.length → lo ≤ A i ∧ A i ≤ B i ∧ B i ≤ hi
  dj : ∀ i j, i < j → j < is.length → B i ≤ A j
  oi : ∀ i, i < is.length → gi < A i ∨ B i ≤ gi
  v : ∀ (i : Nat) (u : Tv) (c : Array Value), is[i]? = some u → L[i]? = some c → Lrv w (A i) (B i) u c
/-- What OverValues has in hand. -/
structure Ovi (w wr : World) (lo hi gi ci : Nat) (L0 : List (Array Value)) (is : List Tv) (A B : Nat → Nat) (k : Nat) : Prop where
  o : ∃ L, wr.ownsRow lo 65 13 (.slice (some ⟨gi, 0, none⟩) (is.length + 9) ci) (is.length + 9) (vfl (L ++ List.replicate 9 mv)) ∧ L.length = is.length ∧ (∀ c ∈ L, c.size = 13) ∧ ∀ j, k ≤ j → L[j]? = L0[j]?
  v : ∀ (i : Nat) (u : Tv) (c : Array Value), k ≤ i → is[i]? = some u → L0[i]? = some c → Lrv wr (A i) (B i) u c
  k : Kp (fun q => lo ≤ q ∧ q < hi) w wr
theorem Ovh.start {w : World} {lo hi gi ci : Nat} {L : List (Array Value)} {is : List Tv} {A B : Nat → Nat} (h : Ovh w lo hi gi ci L is A B) : Ovi w w lo hi gi ci L is A B 0 :=
  ⟨⟨L, h.o, h.n, h.s, fun _ _ => rfl⟩, fun i u c _ h1 h2 => h.v i u c h1 h2, Kp.refl _ _⟩
theorem Ovi.step {w wr w5 w6 : World} {lo hi gi ci : Nat} {L : List (Array Value)} {is : List Tv} {A B : Nat → Nat} {k : Nat} {cur : Array Value} (h0 : Ovh w lo hi gi ci L is A B) (h : Ovi w wr lo hi gi ci L is A B k) (hk : k < is.length) (h5 : Kp (fun q => A k ≤ q ∧ q < B k) wr w5)
    (hc : w5.heap[gi]? = some (.cells cur 65 (0, 0))) (h6 : w6.heap[gi]? = some (.cells (splice cur.toList (k * 13) ov13.toList).toArray 65 (0, 0))) (hk6 : Kp (fun q => q = gi) w5 w6) : Ovi w w6 lo hi gi ci L is A B (k + 1) := by
  obtain ⟨L1, ho, hn, hs, he⟩ := h.o
  have hlo : lo ≤ gi := (ho.lt gi rfl).1
  have hgi := h0.oi k hk
  have hab := h0.ab k hk
  have ho5 := h5.owns ho (fun q hq e => by have e2 := sl_blk hq; omega)
  have ho6 := own_part (c' := ov13) (j := k) ho5 (by simp [hn]) (all13 hs 9) hc (by omega) rfl h6
  rw [List.set_append_left _ _ (by omega)] at ho6
  refine ⟨⟨L1.set k ov13, ho6, by simp [hn], fun c hc => ?_, fun j hj => ?_⟩, fun i u c hi h1 h2 => ?_, (h.k.trans h5 (fun q _ e => ⟨by omega, by omega⟩)).trans hk6 (fun q _ e => ⟨by omega, by have := h0.lt; omega⟩)⟩
  · rcases List.mem_or_eq_of_mem_set hc with e | e
    · exact hs c e
    · rw [e]; rfl
  · rw [List.getElem?_set_ne (by omega)]
    exact he j (by omega)
  · have hil := (List.getElem?_eq_some_iff.1 h1).1
    have hd := h0.dj k i (by omega) hil
    have ho := h0.oi i hil
    exact ((h.v i u c (by omega) h1 h2).kp h5 (fun q e1 e2 e => by omega)).kp hk6 (fun q e1 e2 e => by omega)
def OvrC (N : Nat) : Prop := ∀ t : Tv, SizeOf.sizeOf t < N → ∀ (w : World) (lo hi : Nat) (c : Array Value), Lrv w lo hi t c → Calls Tryz.prog 12 #[.agg c] w fun e w' => e = .returned (.tuple #[]) ∧ Kp (fun q => lo ≤ q ∧ q < hi) w w'
set_option maxRecDepth 1000000 in
set_option maxHeartbeats 1000000 in
theorem overValues_any (N : Nat) (ih : OvrC N) (is : List Tv) (hN : ∀ u ∈ is, SizeOf.sizeOf u < N) (w : World) (lo hi gi ci : Nat) (L : List (Array Value)) (A B : Nat → Nat) (h : Ovh w lo hi gi ci L is A B) :
    Calls Tryz.prog 36 #[.slice (some ⟨gi, 0, none⟩) is.length ci] w fun e w' => e = .returned (.tuple #[]) ∧ Kp (fun q => lo ≤ q ∧ q < hi) w w' := by
  have HIH := hide ih
  have HNN := hide hN
  have HH := hide h
  have hlen := h.il
  clear ih hN h
  go_enter Tryz.func36, Tryz.ntmps36
  go_wp2_with fail
  go_loopw [2] (fun ii wr => ∃ k : Nat, k ≤ is.length ∧ ii = .int .i64 (k : Nat) ∧ Hid (Ovi w wr lo hi gi ci L is A B k)) (fun ii _ => is.length - (intOf ii).toNat)
  case atStart => exact ⟨0, by omega, rfl, HH.out.start⟩
  case round =>
    rename World => wr
    obtain ⟨k, hk, rfl, HI⟩ := hrel
    by_cases hlt : k < is.length
    · have g1 : (k : Int) < (is.length : Int) := by omega
      obtain ⟨u, hu⟩ : ∃ u, is[k]? = some u := ⟨is[k], List.getElem?_eq_getElem hlt⟩
      obtain ⟨c, hc⟩ : ∃ c, L[k]? = some c := ⟨L[k]'(by rw [HH.out.n]; exact hlt), List.getElem?_eq_getElem _⟩
      obtain ⟨L1, ho, hn, hs, he⟩ := HI.out.o
      have hck : (L1 ++ List.replicate 9 mv)[k]? = some c := by rw [List.getElem?_append_left (by omega), he k (Nat.le_refl _)]; exact hc
      have HCC : Hid (∀ j x, c[j]? = some x → wr.cell? ⟨gi, k * 13 + j, none⟩ = some x) := fun j x hx => own_val ho (all13 hs 9) hck j x hx
      have HCS : Hid (c.size = 13) := HH.out.s c (List.mem_of_getElem? hc)
      have HCA := hide (HIH.out u (HNN.out u (List.mem_of_getElem? hu)) wr (A k) (B k) c (HI.out.v k u c (Nat.le_refl _) hu hc))
      have HCU : Hid (∃ cur, wr.heap[gi]? = some (.cells cur 65 (0, 0)) ∧ (is.length + 9) * 13 ≤ cur.size) := by
        rcases ho.2 with ⟨e, _⟩ | ⟨g', cap', cur, e, _, h1, h2, _, h3, _⟩
        · cases e
        · injection e with e1 e2 e3
          injection e1 with e1
          injection e1 with e1 _ _
          subst e1
          exact ⟨cur, h1, by rw [h3]; exact Nat.mul_le_mul_right 13 h2⟩
      clear hu hc ho hn hs he hck L1
      go_wp2_with (refine wpList_valAt rfl rfl gi (k * 13) c rfl HCS.out HCC.out ?_)
      refine HCA.out.mono ?_
      rintro e w5 ⟨rfl, hk5⟩
      obtain ⟨cur, hcur, hcz⟩ := HCU.out
      have hab := HH.out.ab k hlt
      have hoi := HH.out.oi k hlt
      have hcur5 : w5.heap[gi]? = some (.cells cur 65 (0, 0)) := (hk5.block _ (blk_lt hcur) (fun e => by omega)).trans hcur
      have HST : Hid (∀ w6 : World, w6.heap[gi]? = some (.cells (splice cur.toList (k * 13) ov13.toList).toArray 65 (0, 0)) → Kp (fun q => q = gi) w5 w6 → Ovi w w6 lo hi gi ci L is A B (k + 1)) := fun w6 h6 hk6 => HI.out.step HH.out hlt hk5 hcur5 h6 hk6
      have HC5 : Hid (w5.heap[gi]? = some (.cells cur.toList.toArray 65 (0, 0))) := hcur5
      have HLT : Hid (k * 13 + 13 ≤ cur.toList.length) := by show _ ≤ _; simp; omega
      clear hk5 hcur hcz hab hoi hcur5 HCA HCU HCC HI
      go_wp2_with (refine wpList_storePart rfl rfl gi (k * 13) cur.toList ov13.toList 65 rfl rfl HC5.out infoV HLT.out one_ov.2 ?_)
      intro w6 h6 hk6
      have HI6 := hide (HST.out w6 h6.out hk6.out)
      clear h6 hk6 HST
      go_wp2_with fail
      go_roundw
      case rel => exact ⟨k + 1, by omega, by go_num, HI6⟩
      case measure => simp [intOf]; omega
    · have g1 : ¬ (k : Int) < (is.length : Int) := by omega
      go_wp2_with fail
      go_end0
      exact ⟨rfl, HI.out.k⟩
theorem own_ne6 {w : World} {B B' g g' n n' c c' m m' s s' : Nat} {e e' : TypeId} {xs ys : List Value} (h : w.ownsRow B e s (.slice (some ⟨g, 0, none⟩) m c) n xs) (h' : w.ownsRow B' e' s' (.slice (some ⟨g', 0, none⟩) m' c') n' ys) (hne : e ≠ e') : g ≠ g' := fun hg => by
  subst hg
  rcases h.2 with ⟨q, _⟩ | ⟨g1, c1, cur1, q, _, h1, _⟩
  · cases q
  rcases h'.2 with ⟨q', _⟩ | ⟨g2, c2, cur2, q', _, h2, _⟩
  · cases q'
  injection q with q _ _
  injection q with q
  injection q with q _ _
  injection q' with q' _ _
  injection q' with q'
  injection q' with q' _ _
  subst q
  subst q'
  rw [h1] at h2
  injection h2 with h2
  injection h2 with _ h2 _
  exact hne h2
set_option maxRecDepth 1000000 in
set_option maxHeartbeats 1000000 in
theorem overValue_step (N : Nat) (ih : OvrC N) (t : Tv) (hN : SizeOf.sizeOf t = N) (w : World) (lo hi : Nat) (c : Array Value) (h : Lrv w lo hi t c) :
    Calls Tryz.prog 12 #[.agg c] w fun e w' => e = .returned (.tuple #[]) ∧ Kp (fun q => lo ≤ q ∧ q < hi) w w' := by
  cases h with
  | mk _ _ _ gy cy gk ck gi ci L A B hbd hy hgy hk hgk hkl hks hv hgi hil hL h13 hab hdj hoi hcs =>
  have HIH := hide ih
  have HNN : Hid (∀ u ∈ t.is, SizeOf.sizeOf u < N) := fun u hu => by rw [← hN]; exact Tv.is_lt hu
  have n1 : gy ≠ gk := own_ne6 hy.own hk (by decide)
  have n2 : gy ≠ gi := own_ne6 hy.own hv (by decide)
  have n3 : gk ≠ gi := own_ne6 hk hv (by decide)
  have y1 := hy.own.lt gy rfl
  have k1 := hk.lt gk rfl
  have i1 := hv.lt gi rfl
  have hb0 := below_alloc4 w (.cells (vcs t (.slice (some ⟨gy, 0, none⟩) t.y.length cy) (.slice (some ⟨gk, 0, none⟩) t.ks.length ck) (.slice (some ⟨gi, 0, none⟩) t.is.length ci)) 65)
  have hk0 : Kp (fun _ => False) w _ := Kp.of_below hb0
  have hg0 := heap_alloc_new w (.cells (vcs t (.slice (some ⟨gy, 0, none⟩) t.y.length cy) (.slice (some ⟨gk, 0, none⟩) t.ks.length ck) (.slice (some ⟨gi, 0, none⟩) t.is.length ci)) 65)
  have HG0 := hide hg0
  have HK0 := hide hk0
  have HY0 := hide (hy.kp hk0 (fun h => h))
  have HKK : Hid (∀ wx, Kp (fun q => q = gy) (w.alloc (.cells (vcs t (.slice (some ⟨gy, 0, none⟩) t.y.length cy) (.slice (some ⟨gk, 0, none⟩) t.ks.length ck) (.slice (some ⟨gi, 0, none⟩) t.is.length ci)) 65)) wx → wx.ownsRow lo 9 1 (.slice (some ⟨gk, 0, none⟩) (t.ks.length + 9) ck) (t.ks.length + 9) (sv (t.ks ++ List.replicate 9 mk9))) := fun wx hx => hx.owns (hk0.owns hk (fun _ _ h => h)) (fun q hq e => by have e2 := sl_blk hq; omega)
  have HOV : Hid (∀ wx, Kp (fun q => q = gy ∨ q = gk) (w.alloc (.cells (vcs t (.slice (some ⟨gy, 0, none⟩) t.y.length cy) (.slice (some ⟨gk, 0, none⟩) t.ks.length ck) (.slice (some ⟨gi, 0, none⟩) t.is.length ci)) 65)) wx → Ovh wx lo hi gi ci L t.is A B) := fun wx hx => by
    refine ⟨hx.owns (hk0.owns hv (fun _ _ h => h)) (fun q hq e => by have e2 := sl_blk hq; omega), hgi, hil, hL, h13, hab, hdj, fun i hi => (hoi i hi).1, fun i u c h1 h2 => ?_⟩
    have h3 := hoi i (List.getElem?_eq_some_iff.1 h1).1
    exact ((hcs i u c h1 h2).kp hk0 (fun _ _ _ h => h)).kp hx (fun q e1 e2 e => by omega)
  have HRG : Hid (lo ≤ gy ∧ gy < hi ∧ lo ≤ gk ∧ gk < hi ∧ gy < w.heap.size ∧ gk < w.heap.size ∧ gi < w.heap.size ∧ t.ks.length ≤ 100000) := ⟨y1.1, hgy, k1.1, hgk, y1.2, k1.2, i1.2, hkl⟩
  clear ih hN hbd hy hgy hk hgk hkl hks hv hgi hil hL h13 hab hdj hoi hcs n1 n2 n3 y1 k1 i1 hb0 hk0 hg0
  have c6 : (w.alloc (.cells (vcs t (.slice (some ⟨gy, 0, none⟩) t.y.length cy) (.slice (some ⟨gk, 0, none⟩) t.ks.length ck) (.slice (some ⟨gi, 0, none⟩) t.is.length ci)) 65)).cell? ⟨w.heap.size, 6, none⟩ = some (.slice (some ⟨gy, 0, none⟩) t.y.length cy) := blk_cell (j := 6) HG0.out rfl
  have c11 : (w.alloc (.cells (vcs t (.slice (some ⟨gy, 0, none⟩) t.y.length cy) (.slice (some ⟨gk, 0, none⟩) t.ks.length ck) (.slice (some ⟨gi, 0, none⟩) t.is.length ci)) 65)).cell? ⟨w.heap.size, 11, none⟩ = some (.slice (some ⟨gk, 0, none⟩) t.ks.length ck) := blk_cell (j := 11) HG0.out rfl
  have c12 : (w.alloc (.cells (vcs t (.slice (some ⟨gy, 0, none⟩) t.y.length cy) (.slice (some ⟨gk, 0, none⟩) t.ks.length ck) (.slice (some ⟨gi, 0, none⟩) t.is.length ci)) 65)).cell? ⟨w.heap.size, 12, none⟩ = some (.slice (some ⟨gi, 0, none⟩) t.is.length ci) := blk_cell (j := 12) HG0.out rfl
  have HSZ : Hid (w.heap.size < (w.alloc (.cells (vcs t (.slice (some ⟨gy, 0, none⟩) t.y.length cy) (.slice (some ⟨gk, 0, none⟩) t.ks.length ck) (.slice (some ⟨gi, 0, none⟩) t.is.length ci)) 65)).heap.size) := by show _ < _; simp
  clear HG0
  generalize hvc : vcs t (.slice (some ⟨gy, 0, none⟩) t.y.length cy) (.slice (some ⟨gk, 0, none⟩) t.ks.length ck) (.slice (some ⟨gi, 0, none⟩) t.is.length ci) = cc at *
  clear hvc
  go_enter Tryz.func12, Tryz.ntmps12
  go_upto_region 1 with fail
  generalize w.alloc (.cells cc 65) = w0 at *
  go_wp2_with fail
  refine (over_any HY0.out).mono ?_
  rintro e w1 ⟨rfl, -, hk1⟩
  have d11 := hk1.cell c11 (by have := HRG.out; show ¬ w.heap.size = gy; omega)
  have d12 := hk1.cell c12 (by have := HRG.out; show ¬ w.heap.size = gy; omega)
  have HK1 := hide hk1
  have HT1 := hide (HKK.out w1 hk1)
  clear hk1 c6 c11 c12 HKK HY0
  go_wp2_with fail
  refine (overTexts_any HT1.out (n := t.ks.length) (by omega) (by have := HRG.out; omega)).mono ?_
  rintro e w2 ⟨rfl, hk2⟩
  have e12 := hk2.cell d12 (by have := HRG.out; show ¬ w.heap.size = gk; omega)
  have HK2 : Hid (Kp (fun q => q = gy ∨ q = gk) w0 w2) := (HK1.out.mono (fun q _ e => .inl e)).trans hk2 (fun q _ e => .inr e)
  have HO2 := hide (HOV.out w2 HK2.out)
  clear hk2 d11 d12 HT1 HOV HK1
  go_wp2_with fail
  refine (overValues_any N HIH.out t.is HNN.out w2 lo hi gi ci L A B HO2.out).mono ?_
  rintro e w3 ⟨rfl, hk3⟩
  have HKF : Hid (Kp (fun q => lo ≤ q ∧ q < hi) w w3) := ((HK0.out.mono (T := fun q => lo ≤ q ∧ q < hi) (fun _ _ h => h.elim)).trans HK2.out (fun q _ e => by have := HRG.out; omega)).trans hk3 (fun q _ e => e)
  clear hk3 e12
  go_wp2_with fail
  go_end0
  exact ⟨rfl, HKF.out⟩
theorem overValue_any (t : Tv) (w : World) (lo hi : Nat) (c : Array Value) (h : Lrv w lo hi t c) :
    Calls Tryz.prog 12 #[.agg c] w fun e w' => e = .returned (.tuple #[]) ∧ Kp (fun q => lo ≤ q ∧ q < hi) w w' := by
  have hh : ∀ N, OvrC N := by
    intro N
    induction N with
    | zero => exact fun t h => absurd h (by omega)
    | succ N ih =>
      intro t htN w lo hi c h
      exact overValue_step (SizeOf.sizeOf t) (fun u hu => ih u (by omega)) t rfl w lo hi c h
  exact hh _ t (Nat.lt_succ_self _) w lo hi c h
end
section
open Go.RowKit
/-- A new book and a new Late. -/
theorem hs_new (w : World) :
    Hs ((w.alloc (.cells (bookCells (.slice none 0 0) (.slice none 0 0) 0 0 0 0) 48)).alloc (.cells #[.slice none 0 0, .slice none 0 0] 51)) w.heap.size (fun q => w.heap.size + 2 ≤ q) w.heap.size (w.heap.size + 1) 0 0 := by
  have hb : BkBlk ((w.alloc (.cells (bookCells (.slice none 0 0) (.slice none 0 0) 0 0 0 0) 48)).alloc (.cells #[.slice none 0 0, .slice none 0 0] 51)) w.heap.size (.slice none 0 0) (.slice none 0 0) 0 0 0 0 :=
    BkBlk.alloc (heap_alloc_new w _) _
  have hl : ((w.alloc (.cells (bookCells (.slice none 0 0) (.slice none 0 0) 0 0 0 0) 48)).alloc (.cells #[.slice none 0 0, .slice none 0 0] 51)).heap[w.heap.size + 1]? = some (.cells #[.slice none 0 0, .slice none 0 0] 51 (0, 0)) := by
    have := heap_alloc_new (w.alloc (.cells (bookCells (.slice none 0 0) (.slice none 0 0) 0 0 0 0) 48)) (.cells #[.slice none 0 0, .slice none 0 0] 51)
    simpa using this
  refine ⟨fun q => q = w.heap.size, fun q => q = w.heap.size + 1, ⟨.slice none 0 0, .slice none 0 0, [], 0, 0, 0, ⟨hb, World.ownsRow_nil _ _ _ _, World.ownsRow_nil _ _ _ _, by simp, by simp, Nat.le_refl _, by simp, by decide, by decide, ⟨0, 0, rfl, rfl, by decide⟩, by simp, by simp⟩, fun q hq => ?_⟩,
    ⟨.slice none 0 0, .slice none 0 0, [], ⟨hl, World.ownsRow_nil _ _ _ _, World.ownsRow_nil _ _ _ _, (fun q hq => by cases hq), by simp, by simp, by simp, by simp, by simp, by omega⟩, fun q hq => ?_, Nat.le_refl _⟩, fun q h1 h2 => by omega, fun q hor => ?_⟩
  · rcases hq with h | h | h | ⟨e, he, _⟩
    · exact h
    · cases h
    · cases h
    · cases he
  · rcases hq with h | h | h | ⟨p, hp, _⟩ | ⟨p, hp, _⟩
    · exact h
    · cases h
    · cases h
    · cases hp
    · cases hp
  · have hs : ((w.alloc (.cells (bookCells (.slice none 0 0) (.slice none 0 0) 0 0 0 0) 48)).alloc (.cells #[.slice none 0 0, .slice none 0 0] 51)).heap.size = w.heap.size + 2 := by simp
    rw [hs]
    rcases hor with h | h <;> omega

theorem builtBook : Tryz.prog.built 48 [] = some (bookCells (.slice none 0 0) (.slice none 0 0) 0 0 0 0) := by kernel_rfl

theorem run_buildBook (w : World) : (Instr.build 48 #[]).run Tryz.prog w = .ok (.agg (bookCells (.slice none 0 0) (.slice none 0 0) 0 0 0 0)) w := run_build w 48 #[] _ builtBook

theorem wpList_buildBook {ops : Array Oper} {rest : List Oper} {o : Oper} {a : Act} {Q : Exit → Act → World → Prop} {w : World} (hgd : o.guard = none) (ho : o.op = .build 48 #[])
    (h : wpList Tryz.prog ops Q rest (a.put o.dst (.agg (bookCells (.slice none 0 0) (.slice none 0 0) 0 0 0 0))) w) : wpList Tryz.prog ops Q (o :: rest) a w := by
  refine wpList_plain hgd fun K hK => ?_
  unfold Oper.wp execOp
  have hr := run_buildBook w
  simp only [ho, Sem.run_bind, List.map_toArray, List.map_nil, hr, Result.andThen_ok]
  exact hK _ _ h
end
section
open Go.RowKit Go
set_option maxRecDepth 1000000 in
set_option maxHeartbeats 400000 in
/-- Head tells a piece of the same row. -/
theorem head7_any (w : World) (v : Value) (xs : List Nat) (hsl : BSl w v xs) :
    Calls Tryz.prog 6 #[v] w fun e w' => ∃ v', e = .returned v' ∧ (∀ wx, BSl wx v xs → BSl wx v' (xs.take 1048576)) ∧ w' = w := by
  obtain ⟨⟨a, cap, rfl, hn, hc⟩, hmax, hb⟩ := hsl
  have hcap := hn.1
  clear hn hc hb
  by_cases h : 1048576 < xs.length
  · have h' : (1048576 : Int) < (xs.length : Int) := by omega
    have h'' : 1048576 ≤ cap := by omega
    go_enter Tryz.func6, Tryz.ntmps6
    go_wp2
    go_ret
    exact ⟨_, rfl, fun wx hx => hx.take 1048576 (by omega), rfl⟩
  · have h' : ¬ (1048576 : Int) < (xs.length : Int) := by omega
    go_enter Tryz.func6, Tryz.ntmps6
    go_wp2
    go_ret
    exact ⟨_, rfl, fun wx hx => by rw [List.take_of_length_le (by omega)]; exact hx, rfl⟩
/-- What stands between two calls of a round: Book and Late, the seat. -/
structure Rd7 (wp wr : World) (base B L P : Nat) (X M : Nat → Prop) (t c : Nat) : Prop where
  h : Hs wr base X B L t c
  x : ∀ q, wr.heap.size ≤ q → X q
  s : Sea wr P M
  m : ∀ q, M q → X q ∧ base ≤ q
  k : Below base wp wr
  z : base ≤ wr.heap.size
theorem Rd7.kp {wp wr wy : World} {base B L P : Nat} {X M S : Nat → Prop} {t c : Nat} (h : Rd7 wp wr base B L P X M t c) (hk : Kp S wr wy) (hs : ∀ q, S q → X q ∧ base ≤ q ∧ ¬ M q) : Rd7 wp wy base B L P X M t c :=
  ⟨h.h.kp hk (fun q _ _ hx e => hx (hs q e).1), fun q hq => h.x q (Nat.le_trans hk.size hq), h.s.kp hk (fun q hm e => (hs q e).2.2 hm), h.m, h.k.trans (hk.below h.z (fun q e => (hs q e).2.1)), Nat.le_trans h.z hk.size⟩
theorem Rd7.next {wp wr wy : World} {base B L P : Nat} {X M : Nat → Prop} {t c : Nat} (h : Rd7 wp wr base B L P X M t c) (hb : Below wr.heap.size wr wy) : Rd7 wp wy base B L P X M t c := h.kp (Kp.of_below (S := fun _ => False) hb) (fun _ e => e.elim)
theorem Rd7.told {wp wr wy : World} {base B L P : Nat} {X M : Nat → Prop} {t c : Nat} {e : Ending} (h : Rd7 wp wr base B L P X M t c) (ht : Tol7 wr base X B L t c e wy) : e = .returned (.bool true) ∧ ∃ X', Rd7 wp wy base B L P X' M t (c + 2) ∧ (∀ q, X q → q < wr.heap.size → X' q) ∧ Kp (fun k => base ≤ k ∧ ¬ X k) wr wy := by
  obtain ⟨he, hq⟩ := ht
  obtain ⟨X', h1, h2, h3, h4⟩ := hq.out
  exact ⟨he, X', ⟨h1, h2, h.s.kp h4 (fun q hm e => e.2 (h.m q hm).1), fun q hm => ⟨h3 q (h.m q hm).1 (h.s.lt q hm), (h.m q hm).2⟩, h.k.trans (h4.below h.z (fun q e => e.1)), Nat.le_trans h.z h4.size⟩, h3, h4⟩
theorem Rd7.seat {wp wr wy : World} {base B L P : Nat} {X M M' : Nat → Prop} {t c : Nat} (h : Rd7 wp wr base B L P X M t c) (hs : Sea wy P M') (hm : ∀ x, M' x → M x ∨ wr.heap.size ≤ x) (hk : Kp M wr wy) : Rd7 wp wy base B L P X M' t c :=
  ⟨h.h.kp hk (fun q _ _ hx e => hx (h.m q e).1), fun q hq => h.x q (Nat.le_trans hk.size hq), hs, fun q hq => by
    rcases hm q hq with e | e
    · exact h.m q e
    · exact ⟨h.x q e, Nat.le_trans h.z e⟩, h.k.trans (hk.below h.z (fun q e => (h.m q e).2)), Nat.le_trans h.z hk.size⟩
theorem Rd7.settle {wp wr wy : World} {base B L P : Nat} {X M : Nat → Prop} {t c t' c' : Nat} (h : Rd7 wp wr base B L P X M t c) (hh : Hs wy base (fun k => X k ∧ k < wr.heap.size) B L t' c') (hk : Kp (fun k => base ≤ k ∧ ¬ X k) wr wy) : ∃ X', Rd7 wp wy base B L P X' M t' c' :=
  ⟨fun k => (X k ∧ k < wr.heap.size) ∨ wy.heap.size ≤ k, hh.mono (fun k _ h1 h2 => h2.elim id (fun h => by omega)), fun q hq => .inr hq, h.s.kp hk (fun q hm e => e.2 (h.m q hm).1), fun q hm => ⟨.inl ⟨(h.m q hm).1, h.s.lt q hm⟩, (h.m q hm).2⟩, h.k.trans (hk.below h.z (fun q e => e.1)), Nat.le_trans h.z hk.size⟩
/-- What is lent in a round: a value, where it is kept, bytes. -/
structure Rl7 (wr : World) (base : Nat) (X M : Nat → Prop) (lo hi gin ga ca : Nat) (u : Tv) (c : Array Value) (fr : List Nat) : Prop where
  v : Lrv wr lo hi u c
  i : wr.heap[gin]? = some (.cells c 65 (0, 0))
  a : Lnt wr base ga ca fr
  x : ∀ q, (lo ≤ q ∧ q < hi) ∨ q = gin ∨ q = ga → X q ∧ q < wr.heap.size ∧ base ≤ q ∧ ¬ M q
  g : hi ≤ ga
theorem Rl7.kp {wr wy : World} {base : Nat} {X X' M S : Nat → Prop} {lo hi gin ga ca : Nat} {u : Tv} {c : Array Value} {fr : List Nat} (h : Rl7 wr base X M lo hi gin ga ca u c fr) (hk : Kp S wr wy) (hs : ∀ q, base ≤ q → S q → ¬ X q) (hx : ∀ q, X q → q < wr.heap.size → X' q) : Rl7 wy base X' M lo hi gin ga ca u c fr := by
  have hq : ∀ q, (lo ≤ q ∧ q < hi) ∨ q = gin ∨ q = ga → ¬ S q := fun q e es => hs q (h.x q e).2.2.1 es (h.x q e).1
  exact ⟨h.v.kp hk (fun q h1 h2 => hq q (.inl ⟨h1, h2⟩)), (hk.block _ (blk_lt h.i) (hq gin (.inr (.inl rfl)))).trans h.i, h.a.kp hk (hq ga (.inr (.inr rfl))), fun q e => ⟨hx q (h.x q e).1 (h.x q e).2.1, Nat.lt_of_lt_of_le (h.x q e).2.1 hk.size, (h.x q e).2.2⟩, h.g⟩
theorem Rl7.next {wr wy : World} {base : Nat} {X M : Nat → Prop} {lo hi gin ga ca : Nat} {u : Tv} {c : Array Value} {fr : List Nat} (h : Rl7 wr base X M lo hi gin ga ca u c fr) (hb : Below wr.heap.size wr wy) : Rl7 wy base X M lo hi gin ga ca u c fr := h.kp (Kp.of_below (S := fun _ => False) hb) (fun _ _ e => e.elim) (fun _ h _ => h)
end
section
open Go.RowKit Go
theorem vsl_part7 {w : World} {b off n i : Nat} {u : Tv} {cu : Array Value} (ht : Tin w u cu) (hc : ∀ j x, cu[j]? = some x → w.cell? ⟨b, off + i * 13 + j, none⟩ = some x) (h1 : 1 ≤ n) : VSl w (.slice (some ⟨b, off + i * 13, none⟩) 1 n) [u] := by
  refine ⟨⟨_, n, rfl, ⟨by simpa using h1, fun h => by cases h⟩, .inr ⟨b, off + i * 13, rfl, fun j t hj => ?_⟩⟩, by simp⟩
  have hi := (List.getElem?_eq_some_iff.1 hj).1
  simp at hi
  subst hi
  simp at hj
  subst hj
  exact ⟨cu, ht, fun j x hx => by simpa using hc j x hx⟩
set_option maxRecDepth 1000000 in
set_option maxHeartbeats 2000000 in
/-- The values that are played: no more than 200, none of more than 20000 parts. -/
theorem played7_any (w : World) (vL : Value) (is : List Tv) (hv : VSl w vL is) : Calls Tryz.prog 5 #[vL] w fun e w' => ∃ v', e = .returned v' ∧ ∃ ms, VSl w' v' ms ∧ ms.length ≤ 200 ∧ (∀ u ∈ ms, tmuch u ≤ 20000) ∧ Below w.heap.size w w' := by
  obtain ⟨⟨a, cap, rfl, hz, hform⟩, hmax⟩ := hv
  have HF := hide hform
  have hcap := hz.1
  clear hform hz
  go_enter Tryz.func5, Tryz.ntmps5
  go_wp2_with fail
  go_loopw [3, 4] (fun vv ii wx => ∃ (i : Nat) (ms : List Tv) (L : List (Array Value)), i ≤ is.length ∧ ii = .int .i64 (i : Nat) ∧ ms.length ≤ 200 ∧ Hid (Trw w wx w.heap.size vv ms L) ∧ Hid (∀ u ∈ ms, tmuch u ≤ 20000) ∧ Hid (Below w.heap.size w wx)) (fun _ ii _ => is.length - (intOf ii).toNat)
  case atStart => exact ⟨0, [], [], by omega, rfl, by simp, ⟨World.ownsRow_nil _ _ _ _, by simp, by simp, by simp⟩, (fun u hu => by cases hu), Below.refl _ _⟩
  case round =>
    rename World => wa
    obtain ⟨i, ms, L, hi, rfl, hms, HL, HMS, HWa⟩ := hrel
    obtain ⟨ax, cx, hvx⟩ := own_slice HL.out.o
    subst hvx
    have HLn := hide HL.out.n
    have hLm : L.length ≤ 200 := by have := HLn.out; omega
    by_cases hlt : i < is.length ∧ L.length < 200
    · obtain ⟨hlt, hl2⟩ := hlt
      have g1 : (i : Int) < (is.length : Int) := by omega
      have g2 : (L.length : Int) < 200 := by omega
      obtain ⟨u, hu⟩ : ∃ u, is[i]? = some u := ⟨is[i], List.getElem?_eq_getElem hlt⟩
      obtain ⟨b, off, rfl, hcells⟩ := HF.out.resolve_left (fun h => by rw [h] at hlt; simp at hlt)
      obtain ⟨cu, hcu, hcc⟩ := hcells i u hu
      have HTU := hide hcu
      have HCU := hide hcc
      clear hcells hcu hcc hu HF
      have HSU := hide HTU.out.size13
      have e1 : IntKind.i64.wrap ((i : Int) + 1) = (i : Int) + 1 := by rw [IntKind.wrap_i64]; omega
      have g3 : (i : Int) + 1 ≤ (cap : Int) := by omega
      go_wp2_with fail
      refine (much_any [u] wa _ 20000 (vsl_part7 (HTU.out.move (keep_below HWa.out)) (fun j x hx => keep_below HWa.out _ _ (HCU.out j x hx)) (by omega)) (by omega)).mono ?_
      rintro e wb ⟨r, rfl, hmu, hbb⟩
      have HMU := hide hmu
      have HWb : Hid (Below w.heap.size w wb) := HWa.out.trans (hbb.mono HWa.out.size)
      have HLb := hide (HL.out.next hbb)
      clear hbb HL HWa hmu e1 g3
      by_cases hr : r ≤ 20000
      · as_aux_lemma =>
        have g4 : (r : Int) ≤ 20000 := by omega
        have HM : Hid (tmuch u ≤ 20000) := by have := HMU.out.eq (by omega); simp [tmuchL] at this; show _ ≤ _; omega
        have HCB : Hid (∀ k x, cu[k]? = some x → wb.cell? ⟨b, off + i * 13 + k, none⟩ = some x) := fun k x hx => keep_below HWb.out _ _ (HCU.out k x hx)
        have HON : Hid (one13 cu) := ⟨HSU.out, fun x hx => by have h := HTU.out.all1; rw [Array.all_eq_true_iff_forall_mem] at h; exact h x (by simpa using hx)⟩
        have HG6 : Hid ((wb.alloc (.cells cu 65)).heap[wb.heap.size]? = some (.cells cu 65 (0, 0))) := heap_alloc_new wb _
        clear hr HMU
        go_wp2_with (first
          | (refine wpList_valAt rfl rfl b (off + i * 13) cu rfl HSU.out HCB.out ?_)
          | (refine wpList_val1 rfl rfl cu HSU.out rfl ?_)
          | (at_builtin; refine append_val rfl _ _ rfl w.heap.size _ L.length (vfl L) rfl (HLb.out.o.alloc _) wb.heap.size cu HON.out rfl HG6.out ?b1 ?b2 ?_))
        case b1 => omega
        case b2 => have := HWb.out.size; simp; omega
        intro v2 w2 ho2 hg2 _
        have hb2 : Below w.heap.size w w2 := (HWb.out.alloc (by have := HWb.out.size; omega) _).grown hg2 (by have := HWb.out.size; simp; omega) (fun q hq => (HLb.out.o.lt q hq).1)
        have HL2 := hide (HLb.out.snoc ho2 HSU.out HTU.out)
        have HB2 := hide hb2
        have HM2 : Hid (∀ x ∈ ms ++ [u], tmuch x ≤ 20000) := fun x hx => by
          rcases List.mem_append.1 hx with h | h
          · exact HMS.out x h
          · rw [List.mem_singleton.1 h]; exact HM.out
        clear hg2 ho2 hb2 HCB
        go_wp2_with fail
        go_roundw
        case rel => exact ⟨i + 1, _, _, by omega, by go_num, by rw [List.length_append, List.length_singleton]; have := HLn.out; omega, HL2, HM2, HB2⟩
        case measure => simp [intOf]; omega
      · as_aux_lemma =>
        have g4 : ¬ (r : Int) ≤ 20000 := by omega
        clear hr
        go_wp2_with fail
        go_roundw
        case rel => exact ⟨i + 1, ms, L, by omega, by go_num, hms, HLb, HMS, HWb⟩
        case measure => simp [intOf]; omega
    · as_aux_lemma =>
      have HV : Hid (VSl wa (.slice ax L.length cx) ms) := HL.out.vsl HWa.out (by omega)
      by_cases h1 : i < is.length
      · have g1 : (i : Int) < (is.length : Int) := by omega
        have g2 : ¬ (L.length : Int) < 200 := by omega
        clear hlt h1
        go_wp2_with fail
        go_ret
        exact ⟨_, rfl, ms, HV.out, hms, HMS.out, HWa.out⟩
      · have g1 : ¬ (i : Int) < (is.length : Int) := by omega
        clear hlt h1
        go_wp2_with fail
        go_ret
        exact ⟨_, rfl, ms, HV.out, hms, HMS.out, HWa.out⟩
end
section
open Go.RowKit Go
/-- What LayExact has in hand ahead of its loop. -/
structure Le7 (w wp : World) (v3 vf : Value) (ms : List Tv) (fr : List Nat) : Prop where
  b : Below w.heap.size w wp
  v : VSl wp v3 ms
  n : ms.length ≤ 200
  m : ∀ u ∈ ms, tmuch u ≤ 20000
  f : BSl wp vf fr
  l : fr.length ≤ 1048576
  t : Tabs wp
set_option maxRecDepth 1000000 in
set_option maxHeartbeats 8000000 in
theorem layexact_any (w : World) (hT : Tabs w) (vV vA : Value) (is : List Tv) (ts : List Nat) (hV : VSl w vV is) (hA : BSl w vA ts) :
    Calls Tryz.prog 3 #[.agg #[vV, vA]] w fun e w' => e = .returned (.bool true) ∧ Below w.heap.size w w' := by
  have HTT := hide hT
  have HB0 := hide (below_alloc4 w (.cells #[vV, vA] 25))
  have HN0 := hide (heap_alloc_new w (.cells #[vV, vA] 25))
  have HPL := hide (played7_any (w.alloc (.cells #[vV, vA] 25)) vV is (hV.move (keep_below HB0.out)))
  have HA0 := hide hA
  clear hT hV hA
  go_enter Tryz.func3, Tryz.ntmps3
  go_upto_region 1 with fail
  generalize w.alloc (.cells #[vV, vA] 25) = w0 at *
  have q0 : w0.cell? ⟨w.heap.size, 0, none⟩ = some vV := blk_cell (j := 0) HN0.out rfl
  go_wp2_with fail
  refine HPL.out.mono ?_
  rintro e wp ⟨v3, rfl, ms, hv3, hml, hmm, hbp⟩
  have HBP : Hid (Below w.heap.size w wp) := HB0.out.trans (hbp.mono HB0.out.size)
  have HV3 := hide hv3
  have HML := hide hml
  have HMM := hide hmm
  have q1 : wp.cell? ⟨w.heap.size, 1, none⟩ = some vA := keep_below hbp _ _ (blk_cell (j := 1) HN0.out rfl)
  have HQL : Hid (w.heap.size < wp.heap.size) := by show _ < _; have h1 := blk_lt HN0.out; have h2 := hbp.size; omega
  clear hv3 hml hmm hbp HPL HN0 HB0 q0
  have HS0 := hide (Sea.new ((wp.alloc (.cells (bookCells (.slice none 0 0) (.slice none 0 0) 0 0 0 0) 48)).alloc (.cells #[.slice none 0 0, .slice none 0 0] 51)))
  have HH0 := hide (hs_new wp)
  have q1w : (((wp.alloc (.cells (bookCells (.slice none 0 0) (.slice none 0 0) 0 0 0 0) 48)).alloc (.cells #[.slice none 0 0, .slice none 0 0] 51)).alloc (.cells #[.slice none 0 0, .slice none 0 0, .slice none 0 0, .slice none 0 0, .slice none 0 0, .slice none 0 0, .slice none 0 0, .slice none 0 0] 59)).cell? ⟨w.heap.size, 1, none⟩ = some vA := keep_below (below_alloc4 _ _) _ _ (keep_below (below_alloc4 _ _) _ _ (keep_below (below_alloc4 _ _) _ _ q1))
  have HRD0 : Hid (Rd7 wp (((wp.alloc (.cells (bookCells (.slice none 0 0) (.slice none 0 0) 0 0 0 0) 48)).alloc (.cells #[.slice none 0 0, .slice none 0 0] 51)).alloc (.cells #[.slice none 0 0, .slice none 0 0, .slice none 0 0, .slice none 0 0, .slice none 0 0, .slice none 0 0, .slice none 0 0, .slice none 0 0] 59)) wp.heap.size wp.heap.size (wp.heap.size + 1) (wp.heap.size + 1 + 1) (fun q => wp.heap.size + 2 ≤ q) (fun q => q = wp.heap.size + 1 + 1) 0 0) := by
    have e2 : ((wp.alloc (.cells (bookCells (.slice none 0 0) (.slice none 0 0) 0 0 0 0) 48)).alloc (.cells #[.slice none 0 0, .slice none 0 0] 51)).heap.size = wp.heap.size + 1 + 1 := by simp
    have hs := HS0.out
    rw [e2] at hs
    have b1 := below_alloc4 wp (.cells (bookCells (.slice none 0 0) (.slice none 0 0) 0 0 0 0) 48)
    have b2 := below_alloc4 (wp.alloc (.cells (bookCells (.slice none 0 0) (.slice none 0 0) 0 0 0 0) 48)) (.cells #[.slice none 0 0, .slice none 0 0] 51)
    have b3 := below_alloc4 ((wp.alloc (.cells (bookCells (.slice none 0 0) (.slice none 0 0) 0 0 0 0) 48)).alloc (.cells #[.slice none 0 0, .slice none 0 0] 51)) (.cells #[.slice none 0 0, .slice none 0 0, .slice none 0 0, .slice none 0 0, .slice none 0 0, .slice none 0 0, .slice none 0 0, .slice none 0 0] 59)
    have h3 := b3.size
    refine ⟨HH0.out.kp (Kp.of_below (S := fun _ => False) b3) (fun _ _ _ _ h => h), fun q hq => by omega, hs, fun q hq => ⟨by omega, by omega⟩, (b1.trans (b2.mono b1.size)).trans (b3.mono (Nat.le_trans b1.size b2.size)), by omega⟩
  have HAW : Hid (BSl wp vA ts) := HA0.out.move (keep_below HBP.out)
  have HAW3 : Hid (BSl (((wp.alloc (.cells (bookCells (.slice none 0 0) (.slice none 0 0) 0 0 0 0) 48)).alloc (.cells #[.slice none 0 0, .slice none 0 0] 51)).alloc (.cells #[.slice none 0 0, .slice none 0 0, .slice none 0 0, .slice none 0 0, .slice none 0 0, .slice none 0 0, .slice none 0 0, .slice none 0 0] 59)) vA ts) := HAW.out.move (keep_below HRD0.out.k)
  clear HS0 HH0 HA0 q1
  go_wp2_with (refine wpList_buildBook rfl rfl ?_)
  generalize ((wp.alloc (.cells (bookCells (.slice none 0 0) (.slice none 0 0) 0 0 0 0) 48)).alloc (.cells #[.slice none 0 0, .slice none 0 0] 51)).alloc (.cells #[.slice none 0 0, .slice none 0 0, .slice none 0 0, .slice none 0 0, .slice none 0 0, .slice none 0 0, .slice none 0 0, .slice none 0 0] 59) = W3 at *
  refine (head7_any W3 vA ts HAW3.out).mono ?_
  rintro e w9 ⟨vf, rfl, hvf, hw9⟩
  have hw9 := hw9.symm
  subst hw9
  have HE : Hid (Le7 w wp v3 vf ms (ts.take 1048576)) := ⟨HBP.out, HV3.out, HML.out, HMM.out, hvf wp HAW.out, by rw [List.length_take]; omega, HTT.out.next HBP.out⟩
  generalize ts.take 1048576 = fr at *
  obtain ⟨⟨a3, c3, hv3e, hz1, hform⟩, hz2⟩ := HV3.out
  subst hv3e
  have HF := hide hform
  have hmn := HML.out
  clear hvf HAW HAW3 HBP HV3 HML HMM HTT q1w hz1 hz2 hform
  go_wp2_with fail
  go_loopw [8] (fun ii wr => ∃ (i : Nat) (X M : Nat → Prop) (t c : Nat), i ≤ ms.length ∧ ii = .int .i64 (i : Nat) ∧ Hid (t + c ≤ 6 * i) ∧ Hid (Rd7 wp wr wp.heap.size wp.heap.size (wp.heap.size + 1) (wp.heap.size + 1 + 1) X M t c)) (fun ii _ => ms.length - (intOf ii).toNat)
  case atStart => exact ⟨0, _, _, 0, 0, Nat.zero_le _, rfl, Nat.le_refl _, HRD0⟩
  case round =>
    rename World => wr
    obtain ⟨i, X, M, t, c, hi, rfl, HTC, HR⟩ := hrel
    clear HRD0
    by_cases hlt : i < ms.length
    case pos =>
      have g1 : (i : Int) < (ms.length : Int) := by omega
      obtain ⟨u, hu⟩ : ∃ u, ms[i]? = some u := ⟨ms[i], List.getElem?_eq_getElem hlt⟩
      obtain ⟨b3, o3, rfl, hcells⟩ := HF.out.resolve_left (fun h => by rw [h] at hlt; simp at hlt)
      obtain ⟨cu, hcu, hcc⟩ := hcells i u hu
      have HMU : Hid (tmuch u ≤ 20000) := HE.out.m u (List.mem_of_getElem? hu)
      have HSU := hide hcu.size13
      have HTU : Hid (∀ wx, Below wp.heap.size wp wx → Tin wx u cu) := fun wx hb => hcu.move (keep_below hb)
      have HTS : Hid (∀ wx M, Below wp.heap.size wp wx → (∀ q, M q → wp.heap.size ≤ q) → Tis wx M u cu) := fun wx M hb hm => (Tis.of_tin hcu hm).kp (Kp.of_below (S := M) hb)
      have HCU : Hid (∀ wx, Below wp.heap.size wp wx → ∀ k x, cu[k]? = some x → wx.cell? ⟨b3, o3 + i * 13 + k, none⟩ = some x) := fun wx hb k x hx => keep_below hb _ _ (hcc k x hx)
      have HFW : Hid (∀ wx, Below wp.heap.size wp wx → BSl wx vf fr) := fun wx hb => HE.out.f.move (keep_below hb)
      have HTW : Hid (∀ wx, Below wp.heap.size wp wx → Tabs wx) := fun wx hb => HE.out.t.next hb
      have HFL := hide HE.out.l
      have HNC : Hid (t + c + 20 < 68719476736) := by have h1 := HTC.out; show _ < _; omega
      have HCUr := hide (HCU.out wr HR.out.k)
      clear hcells hcu hcc hu HF
      go_wp2_with (refine wpList_valAt rfl rfl b3 (o3 + i * 13) cu rfl HSU.out HCUr.out ?_)
      refine (lendValueR_any u wr cu (HTU.out wr HR.out.k) (by have := HMU.out; omega)).mono ?_
      rintro e w1 ⟨c1, rfl, hl1, hb1⟩
      have HI1 : Hid ((w1.alloc (.cells c1 65)).heap[w1.heap.size]? = some (.cells c1 65 (0, 0))) := heap_alloc_new w1 _
      have HB2 : Hid (Below w1.heap.size w1 (w1.alloc (.cells c1 65))) := below_alloc4 w1 _
      have HL2 : Hid (Lrv (w1.alloc (.cells c1 65)) wr.heap.size w1.heap.size u c1) := hl1.kept HB2.out
      have HBR : Hid (Below wr.heap.size wr (w1.alloc (.cells c1 65))) := hb1.trans (HB2.out.mono hb1.size)
      have HR2 := hide (HR.out.next HBR.out)
      have HS1 : Hid (c1.size = 13) := hl1.one.1
      have HON : Hid (c1.all (·.oneCell') = true) := by
        show _ = _
        rw [Array.all_eq_true']
        intro x hx
        exact hl1.one.2 x (by simpa using hx)
      have HIN : Hid ((Tryz.prog.info? 65).map (·.size) = some c1.size) := by show _ = _; rw [HS1.out]; exact infoV
      have HZV : Hid (zv.size = c1.size) := by show _ = _; rw [HS1.out]; rfl
      have HG1 : Hid ((w1.alloc (.cells zv 65)).heap[w1.heap.size]? = some (.cells zv 65 (0, 0))) := heap_alloc_new w1 _
      have HZ1 : Hid (wr.heap.size ≤ w1.heap.size) := hb1.size
      have HMX : Hid (∀ q, wr.heap.size ≤ q → X q ∧ wp.heap.size ≤ q ∧ ¬ M q) := fun q hq => ⟨HR.out.x q hq, Nat.le_trans HR.out.z hq, fun hm => by have := HR.out.s.lt q hm; omega⟩
      have HFW2 := hide (HFW.out _ HR2.out.k)
      clear hl1 hb1 HCUr HR
      go_wp2_with (refine wpList_storeRow rfl rfl w1.heap.size zv c1 65 rfl rfl HG1.out HIN.out HZV.out HON.out ?_; rw [World.setRow_alloc_new]; generalize w1.alloc (.cells c1 65) = w2 at *)
      refine (lend_any w2 vf fr HFW2.out (by have := HFL.out; omega)).mono ?_
      rintro e w3 ⟨ga, ca, rfl, ho3, hb3⟩
      have HR3 := hide (HR2.out.next hb3)
      have HL3 : Hid (Rl7 w3 wp.heap.size X M wr.heap.size w1.heap.size w1.heap.size ga ca u c1 fr) := by
        have e1 := ho3.lt ga rfl
        have e2 := blk_lt HI1.out
        have e3 := hb3.size
        have e4 := HZ1.out
        have e5 := HBR.out.size
        refine ⟨HL2.out.kept hb3, (hb3.block _ e2).trans HI1.out, ⟨own_mono ho3 HR2.out.z, HFW2.out.byte, by have := HFL.out; omega⟩, fun q hq => ?_, by omega⟩
        have hle : wr.heap.size ≤ q ∧ q < w3.heap.size := by
          rcases hq with h | h | h
          · exact ⟨h.1, by omega⟩
          · exact ⟨by omega, by omega⟩
          · exact ⟨by omega, by omega⟩
        exact ⟨(HMX.out q hle.1).1, hle.2, (HMX.out q hle.1).2⟩
      clear ho3 hb3 HI1 HB2 HL2 HBR HR2 HON HIN HZV HG1 HZ1 HMX HFW2
      go_wp2_with fail
      generalize w1.heap.size = gin at *
      generalize wr.heap.size = lo at *
      clear w1 w2
      have HR4 : Hid (Rd7 wp w3.drew wp.heap.size wp.heap.size (wp.heap.size + 1) (wp.heap.size + 1 + 1) X M t c) := HR3.out.next (by refine Below.drew ?_; exact Below.refl _ _)
      have HL4 : Hid (Rl7 w3.drew wp.heap.size X M lo gin gin ga ca u c1 fr) := HL3.out.next (by refine Below.drew ?_; exact Below.refl _ _)
      refine heldStart (S := fun wy => Below wp.heap.size wp wy ∧ wy.heap[gin]? = some (.cells c1 65 (0, 0))) (by kernel_rfl) ?_
      generalize w3.drew = w4 at *
      clear HR3 HL3 w3
      have hS : Below wp.heap.size wp w4 ∧ w4.heap[gin]? = some (.cells c1 65 (0, 0)) := ⟨HR4.out.k, HL4.out.i⟩
      refine heldTake 0 _ rfl (by kernel_rfl) (by kernel_rfl) (by kernel_rfl) (fun _ _ _ h => h) rfl hS (fun wy hy => exec_valAt (g := gin) (off := 0) (cs := c1) rfl rfl HS1.out (fun k y hy2 => by rw [Nat.zero_add]; exact blk_cell hy.2 hy2)) ?_
      (try simp only [Act.put]); (try simp only [List.setIfInBounds_toArray, List.set_cons_zero, List.set_cons_succ])
      refine heldTake 1 _ rfl (by kernel_rfl) (by kernel_rfl) (by kernel_rfl) (fun _ _ _ h => h) rfl hS (fun wy hy => by first | (go_simp; done) | (go_simp; rfl) | rfl) ?_
      (try simp only [Act.put]); (try simp only [List.setIfInBounds_toArray, List.set_cons_zero, List.set_cons_succ])
      refine heldTake 2 _ rfl (by kernel_rfl) (by kernel_rfl) (by kernel_rfl) (fun _ _ _ h => h) rfl hS (fun wy hy => by first | (go_simp; done) | (go_simp; rfl) | rfl) ?_
      (try simp only [Act.put]); (try simp only [List.setIfInBounds_toArray, List.set_cons_zero, List.set_cons_succ])
      refine heldTake 3 _ rfl (by kernel_rfl) (by kernel_rfl) (by kernel_rfl) (fun _ _ _ h => h) rfl hS (fun wy hy => by first | (go_simp; done) | (go_simp; rfl) | rfl) ?_
      (try simp only [Act.put]); (try simp only [List.setIfInBounds_toArray, List.set_cons_zero, List.set_cons_succ])
      refine heldTake 4 _ rfl (by kernel_rfl) (by kernel_rfl) (by kernel_rfl) (fun _ _ _ h => h) rfl hS (fun wy hy => by first | (go_simp; done) | (go_simp; rfl) | rfl) ?_
      (try simp only [Act.put]); (try simp only [List.setIfInBounds_toArray, List.set_cons_zero, List.set_cons_succ])
      refine heldTake 5 _ rfl (by kernel_rfl) (by kernel_rfl) (by kernel_rfl) (fun _ _ _ h => h) rfl hS (fun wy hy => exec_valAt (g := b3) (off := o3 + i * 13) (cs := cu) rfl rfl HSU.out (fun k y hy2 => HCU.out wy hy.1 k y hy2)) ?_
      (try simp only [Act.put]); (try simp only [List.setIfInBounds_toArray, List.set_cons_zero, List.set_cons_succ])
      refine heldTake 6 _ rfl (by kernel_rfl) (by kernel_rfl) (by kernel_rfl) (fun _ _ _ h => h) rfl hS (fun wy hy => by first | (go_simp; done) | (go_simp; rfl) | rfl) ?_
      (try simp only [Act.put]); (try simp only [List.setIfInBounds_toArray, List.set_cons_zero, List.set_cons_succ])
      refine heldTake 7 _ rfl (by kernel_rfl) (by kernel_rfl) (by kernel_rfl) (fun _ _ _ h => h) rfl hS (fun wy hy => by first | (go_simp; done) | (go_simp; rfl) | rfl) ?_
      (try simp only [Act.put]); (try simp only [List.setIfInBounds_toArray, List.set_cons_zero, List.set_cons_succ])
      refine heldStep 8 rfl (by kernel_rfl) (fun K hK => ?_)
      go_simp
      refine (told7_any w4 wp.heap.size X wp.heap.size (wp.heap.size + 1) t c HR4.out.h HR4.out.z HR4.out.x (by have := HNC.out; omega) u c1 cu HL4.out.v.ltv.tin (HTU.out w4 HR4.out.k) _ vf fr HL4.out.a.bsl (HFW.out w4 HR4.out.k) (by have := HFL.out; omega) HMU.out (HTW.out w4 HR4.out.k)).mono ?_
      rintro e w5 htol
      obtain ⟨rfl, X5, hr5, hx5, hk5⟩ := HR4.out.told htol
      have HR5 := hide hr5
      have HL5 : Hid (Rl7 w5 wp.heap.size X5 M lo gin gin ga ca u c1 fr) := HL4.out.kp hk5 (fun q _ h => h.2) hx5
      clear htol hr5 hx5 hk5 HR4 HL4
      refine (Hid.out hK) _ _ ⟨HR5.out.k, HL5.out.i⟩ (fun hS2 => ?_)
      clear hK K hS
      have hS := hS2
      clear hS2
      (try simp only [Act.put]); (try simp only [List.setIfInBounds_toArray, List.set_cons_zero, List.set_cons_succ])
      refine heldTake 9 _ rfl (by kernel_rfl) (by kernel_rfl) (by kernel_rfl) (fun _ _ _ h => h) rfl hS (fun wy hy => by first | (go_simp; done) | (go_simp; rfl) | rfl) ?_
      (try simp only [Act.put]); (try simp only [List.setIfInBounds_toArray, List.set_cons_zero, List.set_cons_succ])
      refine heldTake 10 _ rfl (by kernel_rfl) (by kernel_rfl) (by kernel_rfl) (fun _ _ _ h => h) rfl hS (fun wy hy => by first | (go_simp; done) | (go_simp; rfl) | rfl) ?_
      (try simp only [Act.put]); (try simp only [List.setIfInBounds_toArray, List.set_cons_zero, List.set_cons_succ])
      refine heldTake 11 _ rfl (by kernel_rfl) (by kernel_rfl) (by kernel_rfl) (fun _ _ _ h => h) rfl hS (fun wy hy => exec_valAt (g := gin) (off := 0) (cs := c1) rfl rfl HS1.out (fun k y hy2 => by rw [Nat.zero_add]; exact blk_cell hy.2 hy2)) ?_
      (try simp only [Act.put]); (try simp only [List.setIfInBounds_toArray, List.set_cons_zero, List.set_cons_succ])
      refine heldTake 12 _ rfl (by kernel_rfl) (by kernel_rfl) (by kernel_rfl) (fun _ _ _ h => h) rfl hS (fun wy hy => by first | (go_simp; done) | (go_simp; rfl) | rfl) ?_
      (try simp only [Act.put]); (try simp only [List.setIfInBounds_toArray, List.set_cons_zero, List.set_cons_succ])
      refine heldTake 13 _ rfl (by kernel_rfl) (by kernel_rfl) (by kernel_rfl) (fun _ _ _ h => h) rfl hS (fun wy hy => by first | (go_simp; done) | (go_simp; rfl) | rfl) ?_
      (try simp only [Act.put]); (try simp only [List.setIfInBounds_toArray, List.set_cons_zero, List.set_cons_succ])
      refine heldTake 14 _ rfl (by kernel_rfl) (by kernel_rfl) (by kernel_rfl) (fun _ _ _ h => h) rfl hS (fun wy hy => by first | (go_simp; done) | (go_simp; rfl) | rfl) ?_
      (try simp only [Act.put]); (try simp only [List.setIfInBounds_toArray, List.set_cons_zero, List.set_cons_succ])
      refine heldTake 15 _ rfl (by kernel_rfl) (by kernel_rfl) (by kernel_rfl) (fun _ _ _ h => h) rfl hS (fun wy hy => by first | (go_simp; done) | (go_simp; rfl) | rfl) ?_
      (try simp only [Act.put]); (try simp only [List.setIfInBounds_toArray, List.set_cons_zero, List.set_cons_succ])
      refine heldTake 16 _ rfl (by kernel_rfl) (by kernel_rfl) (by kernel_rfl) (fun _ _ _ h => h) rfl hS (fun wy hy => exec_valAt (g := b3) (off := o3 + i * 13) (cs := cu) rfl rfl HSU.out (fun k y hy2 => HCU.out wy hy.1 k y hy2)) ?_
      (try simp only [Act.put]); (try simp only [List.setIfInBounds_toArray, List.set_cons_zero, List.set_cons_succ])
      refine heldTake 17 _ rfl (by kernel_rfl) (by kernel_rfl) (by kernel_rfl) (fun _ _ _ h => h) rfl hS (fun wy hy => by first | (go_simp; done) | (go_simp; rfl) | rfl) ?_
      (try simp only [Act.put]); (try simp only [List.setIfInBounds_toArray, List.set_cons_zero, List.set_cons_succ])
      refine heldTake 18 _ rfl (by kernel_rfl) (by kernel_rfl) (by kernel_rfl) (fun _ _ _ h => h) rfl hS (fun wy hy => by first | (go_simp; done) | (go_simp; rfl) | rfl) ?_
      (try simp only [Act.put]); (try simp only [List.setIfInBounds_toArray, List.set_cons_zero, List.set_cons_succ])
      refine heldStep 19 rfl (by kernel_rfl) (fun K hK => ?_)
      go_simp
      refine (told7_any w5 wp.heap.size X5 wp.heap.size (wp.heap.size + 1) t (c + 2) HR5.out.h HR5.out.z HR5.out.x (by have := HNC.out; omega) u c1 cu HL5.out.v.ltv.tin (HTU.out w5 HR5.out.k) _ vf fr HL5.out.a.bsl (HFW.out w5 HR5.out.k) (by have := HFL.out; omega) HMU.out (HTW.out w5 HR5.out.k)).mono ?_
      rintro e w6 htol
      obtain ⟨rfl, X6, hr6, hx6, hk6⟩ := HR5.out.told htol
      have HR6 := hide hr6
      have HL6 : Hid (Rl7 w6 wp.heap.size X6 M lo gin gin ga ca u c1 fr) := HL5.out.kp hk6 (fun q _ h => h.2) hx6
      clear htol hr6 hx6 hk6 HR5 HL5
      refine (Hid.out hK) _ _ ⟨HR6.out.k, HL6.out.i⟩ (fun hS2 => ?_)
      clear hK K hS
      have hS := hS2
      clear hS2
      (try simp only [Act.put]); (try simp only [List.setIfInBounds_toArray, List.set_cons_zero, List.set_cons_succ])
      refine heldTake 20 _ rfl (by kernel_rfl) (by kernel_rfl) (by kernel_rfl) (fun _ _ _ h => h) rfl hS (fun wy hy => by first | (go_simp; done) | (go_simp; rfl) | rfl) ?_
      (try simp only [Act.put]); (try simp only [List.setIfInBounds_toArray, List.set_cons_zero, List.set_cons_succ])
      refine heldTake 21 _ rfl (by kernel_rfl) (by kernel_rfl) (by kernel_rfl) (fun _ _ _ h => h) rfl hS (fun wy hy => by first | (go_simp; done) | (go_simp; rfl) | rfl) ?_
      (try simp only [Act.put]); (try simp only [List.setIfInBounds_toArray, List.set_cons_zero, List.set_cons_succ])
      refine heldTake 22 _ rfl (by kernel_rfl) (by kernel_rfl) (by kernel_rfl) (fun _ _ _ h => h) rfl hS (fun wy hy => by first | (go_simp; done) | (go_simp; rfl) | rfl) ?_
      (try simp only [Act.put]); (try simp only [List.setIfInBounds_toArray, List.set_cons_zero, List.set_cons_succ])
      refine heldTake 23 _ rfl (by kernel_rfl) (by kernel_rfl) (by kernel_rfl) (fun _ _ _ h => h) rfl hS (fun wy hy => exec_valAt (g := gin) (off := 0) (cs := c1) rfl rfl HS1.out (fun k y hy2 => by rw [Nat.zero_add]; exact blk_cell hy.2 hy2)) ?_
      (try simp only [Act.put]); (try simp only [List.setIfInBounds_toArray, List.set_cons_zero, List.set_cons_succ])
      refine heldTake 24 _ rfl (by kernel_rfl) (by kernel_rfl) (by kernel_rfl) (fun _ _ _ h => h) rfl hS (fun wy hy => by first | (go_simp; done) | (go_simp; rfl) | rfl) ?_
      (try simp only [Act.put]); (try simp only [List.setIfInBounds_toArray, List.set_cons_zero, List.set_cons_succ])
      refine heldTake 25 _ rfl (by kernel_rfl) (by kernel_rfl) (by kernel_rfl) (fun _ _ _ h => h) rfl hS (fun wy hy => by first | (go_simp; done) | (go_simp; rfl) | rfl) ?_
      (try simp only [Act.put]); (try simp only [List.setIfInBounds_toArray, List.set_cons_zero, List.set_cons_succ])
      refine heldTake 26 _ rfl (by kernel_rfl) (by kernel_rfl) (by kernel_rfl) (fun _ _ _ h => h) rfl hS (fun wy hy => by first | (go_simp; done) | (go_simp; rfl) | rfl) ?_
      (try simp only [Act.put]); (try simp only [List.setIfInBounds_toArray, List.set_cons_zero, List.set_cons_succ])
      refine heldTake 27 _ rfl (by kernel_rfl) (by kernel_rfl) (by kernel_rfl) (fun _ _ _ h => h) rfl hS (fun wy hy => exec_valAt (g := b3) (off := o3 + i * 13) (cs := cu) rfl rfl HSU.out (fun k y hy2 => HCU.out wy hy.1 k y hy2)) ?_
      (try simp only [Act.put]); (try simp only [List.setIfInBounds_toArray, List.set_cons_zero, List.set_cons_succ])
      refine heldStep 28 rfl (by kernel_rfl) (fun K hK => ?_)
      go_simp
      refine (backValue_any u w6 lo gin c1 cu HL6.out.v.ltv (HTU.out w6 HR6.out.k)).mono ?_
      rintro e w7 ⟨rfl, hb7⟩
      have HR7 := hide (HR6.out.next hb7)
      have HL7 := hide (HL6.out.next hb7)
      clear hb7 HR6 HL6
      refine (Hid.out hK) _ _ ⟨HR7.out.k, HL7.out.i⟩ (fun hS2 => ?_)
      clear hK K hS
      have hS := hS2
      clear hS2
      (try simp only [Act.put]); (try simp only [List.setIfInBounds_toArray, List.set_cons_zero, List.set_cons_succ])
      refine heldTake 29 _ rfl (by kernel_rfl) (by kernel_rfl) (by kernel_rfl) (fun _ _ _ h => h) rfl hS (fun wy hy => by first | (go_simp; done) | (go_simp; rfl) | rfl) ?_
      (try simp only [Act.put]); (try simp only [List.setIfInBounds_toArray, List.set_cons_zero, List.set_cons_succ])
      refine heldTake 30 _ rfl (by kernel_rfl) (by kernel_rfl) (by kernel_rfl) (fun _ _ _ h => h) rfl hS (fun wy hy => by first | (go_simp; done) | (go_simp; rfl) | rfl) ?_
      (try simp only [Act.put]); (try simp only [List.setIfInBounds_toArray, List.set_cons_zero, List.set_cons_succ])
      refine heldTake 31 _ rfl (by kernel_rfl) (by kernel_rfl) (by kernel_rfl) (fun _ _ _ h => h) rfl hS (fun wy hy => by first | (go_simp; done) | (go_simp; rfl) | rfl) ?_
      (try simp only [Act.put]); (try simp only [List.setIfInBounds_toArray, List.set_cons_zero, List.set_cons_succ])
      refine heldTake 32 _ rfl (by kernel_rfl) (by kernel_rfl) (by kernel_rfl) (fun _ _ _ h => h) rfl hS (fun wy hy => by first | (go_simp; done) | (go_simp; rfl) | rfl) ?_
      (try simp only [Act.put]); (try simp only [List.setIfInBounds_toArray, List.set_cons_zero, List.set_cons_succ])
      refine heldTake 33 _ rfl (by kernel_rfl) (by kernel_rfl) (by kernel_rfl) (fun _ _ _ h => h) rfl hS (fun wy hy => by first | (go_simp; done) | (go_simp; rfl) | rfl) ?_
      (try simp only [Act.put]); (try simp only [List.setIfInBounds_toArray, List.set_cons_zero, List.set_cons_succ])
      refine heldStep 34 rfl (by kernel_rfl) (fun K hK => ?_)
      go_simp
      refine (intact_any HL7.out.a vf (HFW.out w7 HR7.out.k)).mono ?_
      rintro e w8 ⟨rfl, hk8⟩
      have HR8 := hide (HR7.out.kp hk8 (fun _ e => e.elim))
      have HL8 : Hid (Rl7 w8 wp.heap.size X6 M lo gin gin ga ca u c1 fr) := HL7.out.kp hk8 (fun _ _ e => e.elim) (fun _ h _ => h)
      clear hk8 HR7 HL7
      refine (Hid.out hK) _ _ ⟨HR8.out.k, HL8.out.i⟩ (fun hS2 => ?_)
      clear hK K hS
      have hS := hS2
      clear hS2
      (try simp only [Act.put]); (try simp only [List.setIfInBounds_toArray, List.set_cons_zero, List.set_cons_succ])
      refine heldTake 35 _ rfl (by kernel_rfl) (by kernel_rfl) (by kernel_rfl) (fun _ _ _ h => h) rfl hS (fun wy hy => by first | (go_simp; done) | (go_simp; rfl) | rfl) ?_
      (try simp only [Act.put]); (try simp only [List.setIfInBounds_toArray, List.set_cons_zero, List.set_cons_succ])
      refine heldTake 36 _ rfl (by kernel_rfl) (by kernel_rfl) (by kernel_rfl) (fun _ _ _ h => h) rfl hS (fun wy hy => by first | (go_simp; done) | (go_simp; rfl) | rfl) ?_
      (try simp only [Act.put]); (try simp only [List.setIfInBounds_toArray, List.set_cons_zero, List.set_cons_succ])
      refine heldDone (by kernel_rfl) ?_
      clear hS
      clear w4 w5 w6 w7
      have HV8 : Hid (∀ j x, c1[j]? = some x → w8.cell? ⟨gin, 0 + j, none⟩ = some x) := fun j x hx => by rw [Nat.zero_add]; exact blk_cell HL8.out.i hx
      go_wp2_with (refine wpList_valAt rfl rfl gin 0 c1 rfl HS1.out HV8.out ?_)
      refine (overValue_any u w8 lo gin c1 HL8.out.v).mono ?_
      rintro e w9 ⟨rfl, hk9⟩
      have HR9 := hide (HR8.out.kp hk9 (fun q e => ⟨(HL8.out.x q (.inl e)).1, (HL8.out.x q (.inl e)).2.2.1, (HL8.out.x q (.inl e)).2.2.2⟩))
      have HA9 : Hid (Lnt w9 wp.heap.size ga ca fr) := HL8.out.a.kp hk9 (fun e => by have := HL8.out.g; omega)
      have HX9 : Hid (X6 ga ∧ wp.heap.size ≤ ga ∧ ¬ M ga) := ⟨(HL8.out.x ga (.inr (.inr rfl))).1, (HL8.out.x ga (.inr (.inr rfl))).2.2.1, (HL8.out.x ga (.inr (.inr rfl))).2.2.2⟩
      clear hk9 HR8 HL8 HV8
      go_wp2_with fail
      refine (over_any HA9.out).mono ?_
      rintro e w10 ⟨rfl, -, hk10⟩
      have HR10 := hide (HR9.out.kp hk10 (fun q e => by rw [e]; exact HX9.out))
      clear hk10 HR9 HA9 HX9
      go_wp2_with fail
      have HR11 : Hid (Rd7 wp w10.drew wp.heap.size wp.heap.size (wp.heap.size + 1) (wp.heap.size + 1 + 1) X6 M t (c + 2 + 2)) := HR10.out.next (by refine Below.drew ?_; exact Below.refl _ _)
      refine heldStart (S := fun wy => Below wp.heap.size wp wy) (by kernel_rfl) ?_
      generalize w10.drew = w11 at *
      clear HR10
      have hS : Below wp.heap.size wp w11 := HR11.out.k
      refine heldTake 0 _ rfl (by kernel_rfl) (by kernel_rfl) (by kernel_rfl) (fun _ _ _ h => h) rfl hS (fun wy hy => by first | (go_simp; done) | (go_simp; rfl) | rfl) ?_
      (try simp only [Act.put]); (try simp only [List.setIfInBounds_toArray, List.set_cons_zero, List.set_cons_succ])
      refine heldTake 1 _ rfl (by kernel_rfl) (by kernel_rfl) (by kernel_rfl) (fun _ _ _ h => h) rfl hS (fun wy hy => by first | (go_simp; done) | (go_simp; rfl) | rfl) ?_
      (try simp only [Act.put]); (try simp only [List.setIfInBounds_toArray, List.set_cons_zero, List.set_cons_succ])
      refine heldTake 2 _ rfl (by kernel_rfl) (by kernel_rfl) (by kernel_rfl) (fun _ _ _ h => h) rfl hS (fun wy hy => by first | (go_simp; done) | (go_simp; rfl) | rfl) ?_
      (try simp only [Act.put]); (try simp only [List.setIfInBounds_toArray, List.set_cons_zero, List.set_cons_succ])
      refine heldTake 3 _ rfl (by kernel_rfl) (by kernel_rfl) (by kernel_rfl) (fun _ _ _ h => h) rfl hS (fun wy hy => by first | (go_simp; done) | (go_simp; rfl) | rfl) ?_
      (try simp only [Act.put]); (try simp only [List.setIfInBounds_toArray, List.set_cons_zero, List.set_cons_succ])
      refine heldTake 4 _ rfl (by kernel_rfl) (by kernel_rfl) (by kernel_rfl) (fun _ _ _ h => h) rfl hS (fun wy hy => exec_valAt (g := b3) (off := o3 + i * 13) (cs := cu) rfl rfl HSU.out (fun k y hy2 => HCU.out wy hy k y hy2)) ?_
      (try simp only [Act.put]); (try simp only [List.setIfInBounds_toArray, List.set_cons_zero, List.set_cons_succ])
      refine heldTake 6 _ rfl (by kernel_rfl) (by kernel_rfl) (by kernel_rfl) (fun _ _ _ h => h) rfl hS (fun wy hy => by first | (go_simp; done) | (go_simp; rfl) | rfl) ?_
      (try simp only [Act.put]); (try simp only [List.setIfInBounds_toArray, List.set_cons_zero, List.set_cons_succ])
      refine heldTake 7 _ rfl (by kernel_rfl) (by kernel_rfl) (by kernel_rfl) (fun _ _ _ h => h) rfl hS (fun wy hy => by first | (go_simp; done) | (go_simp; rfl) | rfl) ?_
      (try simp only [Act.put]); (try simp only [List.setIfInBounds_toArray, List.set_cons_zero, List.set_cons_succ])
      refine heldTake 8 _ rfl (by kernel_rfl) (by kernel_rfl) (by kernel_rfl) (fun _ _ _ h => h) rfl hS (fun wy hy => by first | (go_simp; done) | (go_simp; rfl) | rfl) ?_
      (try simp only [Act.put]); (try simp only [List.setIfInBounds_toArray, List.set_cons_zero, List.set_cons_succ])
      refine heldTake 9 _ rfl (by kernel_rfl) (by kernel_rfl) (by kernel_rfl) (fun _ _ _ h => h) rfl hS (fun wy hy => by first | (go_simp; done) | (go_simp; rfl) | rfl) ?_
      (try simp only [Act.put]); (try simp only [List.setIfInBounds_toArray, List.set_cons_zero, List.set_cons_succ])
      refine heldTake 10 _ rfl (by kernel_rfl) (by kernel_rfl) (by kernel_rfl) (fun _ _ _ h => h) rfl hS (fun wy hy => exec_valAt (g := b3) (off := o3 + i * 13) (cs := cu) rfl rfl HSU.out (fun k y hy2 => HCU.out wy hy k y hy2)) ?_
      (try simp only [Act.put]); (try simp only [List.setIfInBounds_toArray, List.set_cons_zero, List.set_cons_succ])
      refine heldTake 11 _ rfl (by kernel_rfl) (by kernel_rfl) (by kernel_rfl) (fun _ _ _ h => h) rfl hS (fun wy hy => by first | (go_simp; done) | (go_simp; rfl) | rfl) ?_
      (try simp only [Act.put]); (try simp only [List.setIfInBounds_toArray, List.set_cons_zero, List.set_cons_succ])
      refine heldTake 12 _ rfl (by kernel_rfl) (by kernel_rfl) (by kernel_rfl) (fun _ _ _ h => h) rfl hS (fun wy hy => by first | (go_simp; done) | (go_simp; rfl) | rfl) ?_
      (try simp only [Act.put]); (try simp only [List.setIfInBounds_toArray, List.set_cons_zero, List.set_cons_succ])
      refine heldStep 5 rfl (by kernel_rfl) (fun K hK => ?_)
      go_simp
      refine (svalue_any u w11 (wp.heap.size + 1 + 1) M cu HR11.out.s (HTS.out w11 M HR11.out.k (fun q hq => (HR11.out.m q hq).2)) (by have := HMU.out; omega)).mono ?_
      rintro e w12 ⟨c2, M2, rfl, hs12, hm12, hk12, ht12⟩
      have HR12 := hide (HR11.out.seat hs12 hm12 hk12)
      have HT12 := hide ht12.tin
      clear hs12 hm12 hk12 ht12 HR11
      refine (Hid.out hK) _ _ HR12.out.k (fun hS2 => ?_)
      clear hK K hS
      have hS := hS2
      clear hS2
      (try simp only [Act.put]); (try simp only [List.setIfInBounds_toArray, List.set_cons_zero, List.set_cons_succ])
      refine heldStep 13 rfl (by kernel_rfl) (fun K hK => ?_)
      go_simp
      refine (told7_any w12 wp.heap.size X6 wp.heap.size (wp.heap.size + 1) t (c + 2 + 2) HR12.out.h HR12.out.z HR12.out.x (by have := HNC.out; omega) u c2 cu HT12.out (HTU.out w12 HR12.out.k) vf vf fr (HFW.out w12 HR12.out.k) (HFW.out w12 HR12.out.k) (by have := HFL.out; omega) HMU.out (HTW.out w12 HR12.out.k)).mono ?_
      rintro e w13 htol
      obtain ⟨rfl, X13, hr13, -, -⟩ := HR12.out.told htol
      have HR13 := hide hr13
      clear htol hr13 HR12 HT12
      refine (Hid.out hK) _ _ HR13.out.k (fun hS2 => ?_)
      clear hK K hS
      have hS := hS2
      clear hS2
      (try simp only [Act.put]); (try simp only [List.setIfInBounds_toArray, List.set_cons_zero, List.set_cons_succ])
      refine heldTake 14 _ rfl (by kernel_rfl) (by kernel_rfl) (by kernel_rfl) (fun _ _ _ h => h) rfl hS (fun wy hy => by first | (go_simp; done) | (go_simp; rfl) | rfl) ?_
      (try simp only [Act.put]); (try simp only [List.setIfInBounds_toArray, List.set_cons_zero, List.set_cons_succ])
      refine heldTake 15 _ rfl (by kernel_rfl) (by kernel_rfl) (by kernel_rfl) (fun _ _ _ h => h) rfl hS (fun wy hy => by first | (go_simp; done) | (go_simp; rfl) | rfl) ?_
      (try simp only [Act.put]); (try simp only [List.setIfInBounds_toArray, List.set_cons_zero, List.set_cons_succ])
      refine heldTake 16 _ rfl (by kernel_rfl) (by kernel_rfl) (by kernel_rfl) (fun _ _ _ h => h) rfl hS (fun wy hy => by first | (go_simp; done) | (go_simp; rfl) | rfl) ?_
      (try simp only [Act.put]); (try simp only [List.setIfInBounds_toArray, List.set_cons_zero, List.set_cons_succ])
      refine heldTake 17 _ rfl (by kernel_rfl) (by kernel_rfl) (by kernel_rfl) (fun _ _ _ h => h) rfl hS (fun wy hy => by first | (go_simp; done) | (go_simp; rfl) | rfl) ?_
      (try simp only [Act.put]); (try simp only [List.setIfInBounds_toArray, List.set_cons_zero, List.set_cons_succ])
      refine heldStep 18 rfl (by kernel_rfl) (fun K hK => ?_)
      go_simp
      refine (settle_any HR13.out.h HR13.out.z 8 (by have := HNC.out; omega)).mono ?_
      rintro e w14 ⟨rfl, hpost⟩
      obtain ⟨t14, c14, ht14, hh14, hk14⟩ := hpost.out
      obtain ⟨X14, hr14⟩ := HR13.out.settle hh14 hk14
      have HR14 := hide hr14
      have HT14 : Hid (t14 + c14 ≤ 6 * (i + 1)) := by have := HTC.out; show _ ≤ _; omega
      clear hpost ht14 hh14 hk14 hr14 HR13
      refine (Hid.out hK) _ _ HR14.out.k (fun hS2 => ?_)
      clear hK K hS
      have hS := hS2
      clear hS2
      (try simp only [Act.put]); (try simp only [List.setIfInBounds_toArray, List.set_cons_zero, List.set_cons_succ])
      refine heldTake 19 _ rfl (by kernel_rfl) (by kernel_rfl) (by kernel_rfl) (fun _ _ _ h => h) rfl hS (fun wy hy => by first | (go_simp; done) | (go_simp; rfl) | rfl) ?_
      (try simp only [Act.put]); (try simp only [List.setIfInBounds_toArray, List.set_cons_zero, List.set_cons_succ])
      refine heldTake 20 _ rfl (by kernel_rfl) (by kernel_rfl) (by kernel_rfl) (fun _ _ _ h => h) rfl hS (fun wy hy => by first | (go_simp; done) | (go_simp; rfl) | rfl) ?_
      (try simp only [Act.put]); (try simp only [List.setIfInBounds_toArray, List.set_cons_zero, List.set_cons_succ])
      refine heldDone (by kernel_rfl) ?_
      clear hS
      go_wp2_with fail
      go_roundw
      case rel => exact ⟨i + 1, X14, M2, t14, c14, by omega, by go_num, HT14, HR14⟩
      case measure => simp [intOf]; omega
    case neg =>
      have g1 : ¬ (i : Int) < (ms.length : Int) := by omega
      have HNC : Hid (t + c + 20 < 68719476736) := by have h1 := HTC.out; show _ < _; omega
      have HTW : Hid (∀ wx, Below wp.heap.size wp wx → Tabs wx) := fun wx hb => HE.out.t.next hb
      have HBW := hide HE.out.b
      clear HF HTC
      go_wp2_with fail
      refine (lays7_any wr (HTW.out wr HR.out.k)).mono ?_
      rintro e w1 ⟨rfl, hb1⟩
      have HR1 := hide (HR.out.next hb1)
      clear hb1 HR
      go_wp2_with fail
      refine (settle_any HR1.out.h HR1.out.z 0 (by have := HNC.out; omega)).mono ?_
      rintro e w2 ⟨rfl, hpost⟩
      obtain ⟨t2, c2, ht2, hh2, hk2⟩ := hpost.out
      obtain ⟨X2, hr2⟩ := HR1.out.settle hh2 hk2
      obtain ⟨F, G, hbk, -, -, hxx⟩ := hr2.h
      have HBK := hide hbk
      have HXX := hide hxx
      have HK2 := hide hr2.k
      have HZ2 := hide hr2.z
      clear hpost ht2 hh2 hk2 hr2 hbk hxx HR1
      go_wp2_with fail
      refine (look_any HBK.out HZ2.out).mono ?_
      rintro e w3 ⟨rfl, hpost⟩
      have HK3 : Hid (Below wp.heap.size wp w3) := HK2.out.trans (hpost.out.2.below HZ2.out (fun q hf => (HXX.out q (.inl hf)).1))
      clear hpost
      go_wp2_with fail
      go_ret
      exact ⟨rfl, HBW.out.trans (HK3.out.mono HBW.out.size)⟩
end
section
open Go.ChangeShapes Go.WideShapes Go.ChangeAt Go.RowKit Go.Deep Go.Joins Go
theorem weight_le {H : Type} {t : TypeId} {d : DataW H} (h : (d.weights Tryz.prog t).all (· ≤ reachBytes) = true) {n : Nat} (hn : n ∈ d.weights Tryz.prog t) : n ≤ 140737488351232 := by
  have := List.all_eq_true.1 h n hn
  unfold reachBytes at this
  simpa using this
theorem weight_each {H : Type} {ts : List TypeId} {ds : List (DataW H)} (h : (DataW.weightsEach Tryz.prog ts ds).all (· ≤ reachBytes) = true) {j : Nat} {t : TypeId} {d : DataW H} (ht : ts[j]? = some t) (hd : ds[j]? = some d) : (d.weights Tryz.prog t).all (· ≤ reachBytes) = true :=
  List.all_eq_true.2 fun n hn => List.all_eq_true.1 h n (DataW.weights_mem_each ht hd n hn)
theorem bsl_open6 {H : Type} {enc : TypeId × Value → H} {w : World} {base fuel : Nat} {held : Bool} {v : Value} {x : DataW H × List MemPlace} (h : DataW.trod enc Tryz.prog w base (fun _ => true) held fuel 23 [v] = some x) (hW : (x.1.weights Tryz.prog 23).all (· ≤ reachBytes) = true) : ∃ xs, BSl w v xs ∧ xs.length ≤ 140737488351232 := by
  rcases open_ints Tryz.underlying23 Tryz.underlying5 Tryz.cells5 h with ⟨hcs, _⟩ | ⟨a, len, cap, zs, hcs, _, hl, hm, hz, hx, hcell, hwz⟩
  · injection hcs with hcs _
    subst hcs
    exact ⟨_, bsl_of_row none 0 0 [] (Nat.le_refl _) (Nat.zero_le _) rfl (by simp) (fun _ => rfl) (fun _ hh => by cases hh), by simp⟩
  · injection hcs with hcs _
    subst hcs
    simp only [if_true] at hz
    refine ⟨_, bsl_of_row (some a) len cap zs hl hm hz hwz (fun hh => by cases hh) (fun a' hh c hc => by cases hh; exact hcell c (by omega)), ?_⟩
    have h1 := weight_le hW (n := cap) (by rw [hx]; exact row_weight a len cap zs hz)
    have hlen : ((zs.take len).map Int.toNat).length = len := by simp; omega
    omega
theorem Tryz.bytesStr : Tryz.prog.bytesOf 9 = 16 := by kernel_rfl
theorem Tryz.bytesValue : Tryz.prog.bytesOf 65 = 160 := by kernel_rfl
theorem ssl_open {H : Type} {enc : TypeId × Value → H} {w : World} {base fuel : Nat} {held : Bool} {v : Value} {x : DataW H × List MemPlace} (h : DataW.trod enc Tryz.prog w base (fun _ => true) held fuel 53 [v] = some x) (hW : (x.1.weights Tryz.prog 53).all (· ≤ reachBytes) = true) : ∃ ks, SSl w v ks := by
  rcases open_strings Tryz.underlying53 Tryz.underlying9 Tryz.cells_str h with ⟨hcs, _⟩ | ⟨a, len, cap, ss, hcs, _, hl, hm, hmm, hx, hel, hsz⟩
  · injection hcs with hcs _
    subst hcs
    exact ⟨[], ⟨none, 0, rfl, ⟨by simp, fun _ => rfl⟩, .inl rfl⟩, by simp, by simp⟩
  · injection hcs with hcs _
    subst hcs
    simp only [if_true] at hmm
    have hlen : (ss.take len).length = len := by rw [List.length_take]; omega
    unfold maxLen at hm
    have hw1 : len ≤ 140737488351232 := by
      have h1 := weight_le hW (n := ((strs (H := H) (ss.take len)).length + (strs (H := H) (ss.drop len)).length) * Tryz.prog.bytesOf 9) (by rw [hx]; simp only [DataW.weights, Tryz.underlying53]; exact List.mem_cons_self ..)
      rw [Tryz.bytesStr] at h1
      have h2 : (strs (H := H) (ss.take len)).length = len := by simp [strs]; omega
      omega
    have hw2 : ∀ s ∈ ss.take len, s.size ≤ 140737488351232 := fun s hs => by
      refine weight_le hW ?_
      rw [hx]
      simp only [DataW.weights, Tryz.underlying53]
      refine List.mem_cons.2 (.inr (List.mem_append.2 (.inl (weights_all (d := .lit (.string s.data.toList)) (List.mem_map.2 ⟨s, hs, rfl⟩) _ ?_))))
      simp only [DataW.weights, List.mem_singleton]
      rfl
    refine ⟨ss.take len, ⟨some a, cap, by rw [hlen], ⟨by rw [hlen]; exact hl, fun h => by cases h⟩, ?_⟩, by rw [hlen]; exact hw1, hw2⟩
    by_cases hz : len = 0
    · exact .inl (by rw [hz]; rfl)
    · obtain ⟨b, off, spot⟩ := a
      have hspot : spot = none := by
        have := hel 0 (by omega)
        simpa [Addr.add] using World.cell?_spot this
      subst hspot
      refine .inr ⟨b, off, rfl, fun j s hj => ?_⟩
      have hjl : j < len := by
        have := (List.getElem?_eq_some_iff.1 hj).1
        omega
      have h1 := hel j (by omega)
      rw [addr_add] at h1
      rw [h1]
      rw [List.getElem?_take_of_lt hjl] at hj
      rw [List.getD_eq_getElem?_getD, hj]
      rfl
theorem vsl_of {w : World} {a : Addr} {len cap : Nat} (hl : len ≤ cap) (hm : len ≤ 140737488351232) (each : ∀ i, i < len → ∃ t cs', Tin w t cs' ∧ ∀ j u, cs'[j]? = some u → w.cell? ((a.add (i * 13)).add j) = some u) : ∃ is, VSl w (.slice (some a) len cap) is := by
  have hch : ∀ i, ∃ t : Tv, i < len → ∃ cs', Tin w t cs' ∧ ∀ j u, cs'[j]? = some u → w.cell? ((a.add (i * 13)).add j) = some u := fun i => by
    by_cases hi : i < len
    · obtain ⟨t, h⟩ := each i hi
      exact ⟨t, fun _ => h⟩
    · exact ⟨.mk 0 false false 0 0 ByteArray.empty [] ⟨0, 0, 0, []⟩ [] [], fun h => absurd h hi⟩
  obtain ⟨f, hf⟩ := Classical.axiomOfChoice hch
  have hln : ((List.range len).map f).length = len := by simp
  refine ⟨(List.range len).map f, ⟨some a, cap, by rw [hln], ⟨by rw [hln]; exact hl, fun h => by cases h⟩, ?_⟩, by rw [hln]; omega⟩
  by_cases hz : len = 0
  · exact .inl (by rw [hz]; rfl)
  · obtain ⟨b, off, spot⟩ := a
    have hspot : spot = none := by
      obtain ⟨t, cs', ht, hc⟩ := each 0 (by omega)
      obtain ⟨vy, vk, vi, he, _⟩ := ht.parts
      have := hc 0 (.int .i64 t.k) (by rw [he]; rfl)
      simpa [Addr.add] using World.cell?_spot this
    subst hspot
    refine .inr ⟨b, off, rfl, fun i t hi => ?_⟩
    have hil : i < len := by
      have := (List.getElem?_eq_some_iff.1 hi).1
      omega
    rw [List.getElem?_map, List.getElem?_range hil] at hi
    injection hi with hi
    subst hi
    obtain ⟨cs', h1, h2⟩ := hf i hil
    refine ⟨cs', h1, fun j u hu => ?_⟩
    have := h2 j u hu
    rw [addr_add, addr_add] at this
    exact this
theorem Tryz.cellsValue : Tryz.prog.cellsOf 65 = 13 := by kernel_rfl
theorem Tryz.cells_bool : Tryz.prog.cellsOf 4 = 1 := by kernel_rfl
theorem Tryz.cells_strs : Tryz.prog.cellsOf 53 = 1 := by kernel_rfl
theorem Tryz.cells_values : Tryz.prog.cellsOf 22 = 1 := by kernel_rfl
theorem Tryz.cells_bytes6 : Tryz.prog.cellsOf 23 = 1 := by kernel_rfl
set_option maxRecDepth 100000 in
/-- A value opened. -/
theorem value_open {H : Type} {enc : TypeId × Value → H} {w : World} {base : Nat} {held : Bool} : ∀ (fuel : Nat) (cs : List Value) (x : DataW H × List MemPlace), DataW.trod enc Tryz.prog w base (fun _ => true) held fuel 65 cs = some x → (x.1.weights Tryz.prog 65).all (· ≤ reachBytes) = true → ∃ t, Tin w t cs.toArray := by
  intro fuel
  induction fuel using Nat.strongRecOn with
  | _ fuel ih =>
    intro cs x h hW
    obtain ⟨xs, n, hfu, hx, hlen, hxl, hf⟩ := DataW.trod_struct Tryz.underlying65 h
    rw [Tryz.cellsValue] at hlen
    match cs, hlen, xs, hxl with
    | [c0, c1, c2, c3, c4, c5, c6, c7, c8, c9, c10, c11, c12], _, [y0, y1, y2, y3, y4, y5, y6, y7, y8, y9], _ =>
      have g0 : DataW.trod enc Tryz.prog w base (fun _ => true) held n 3 [c0] = some y0 := by simpa [Tryz.cells_int] using hf 0 _ rfl
      have g1 : DataW.trod enc Tryz.prog w base (fun _ => true) held n 4 [c1] = some y1 := by simpa [Tryz.cells_bool] using hf 1 _ rfl
      have g2 : DataW.trod enc Tryz.prog w base (fun _ => true) held n 4 [c2] = some y2 := by simpa [Tryz.cells_bool] using hf 2 _ rfl
      have g3 : DataW.trod enc Tryz.prog w base (fun _ => true) held n 61 [c3] = some y3 := by simpa [Tryz.cells_u64] using hf 3 _ rfl
      have g4 : DataW.trod enc Tryz.prog w base (fun _ => true) held n 61 [c4] = some y4 := by simpa [Tryz.cells_u64] using hf 4 _ rfl
      have g5 : DataW.trod enc Tryz.prog w base (fun _ => true) held n 9 [c5] = some y5 := by simpa [Tryz.cells_str] using hf 5 _ rfl
      have g6 : DataW.trod enc Tryz.prog w base (fun _ => true) held n 23 [c6] = some y6 := by simpa [Tryz.cells_bytes6] using hf 6 _ rfl
      have g7 : DataW.trod enc Tryz.prog w base (fun _ => true) held n 63 [c7, c8, c9, c10] = some y7 := by simpa [Tryz.cellsLink] using hf 7 _ rfl
      have g8 : DataW.trod enc Tryz.prog w base (fun _ => true) held n 53 [c11] = some y8 := by simpa [Tryz.cells_strs] using hf 8 _ rfl
      have g9 : DataW.trod enc Tryz.prog w base (fun _ => true) held n 22 [c12] = some y9 := by simpa [Tryz.cells_values] using hf 9 _ rfl
      have hWE : (DataW.weightsEach Tryz.prog [3, 4, 4, 61, 61, 9, 23, 63, 53, 22] [y0.1, y1.1, y2.1, y3.1, y4.1, y5.1, y6.1, y7.1, y8.1, y9.1]).all (· ≤ reachBytes) = true := by
        rw [hx] at hW
        simp only [DataW.weights, Tryz.underlying65] at hW
        exact hW
      obtain ⟨n0, f0, _, _⟩ := DataW.trod_int (fuel := n) (cs := [c0]) Tryz.underlying3 g0
      obtain ⟨b1, f1, _⟩ := DataW.trod_bool (fuel := n) (cs := [c1]) Tryz.underlying4 g1
      obtain ⟨b2, f2, _⟩ := DataW.trod_bool (fuel := n) (cs := [c2]) Tryz.underlying4 g2
      obtain ⟨n3, f3, _, w3⟩ := DataW.trod_int (fuel := n) (cs := [c3]) Tryz.underlying61 g3
      obtain ⟨n4, f4, _, w4⟩ := DataW.trod_int (fuel := n) (cs := [c4]) Tryz.underlying61 g4
      obtain ⟨s5, f5, hx5, hs5⟩ := DataW.trod_string (fuel := n) (cs := [c5]) Tryz.underlying9 g5
      obtain ⟨y, hy, hyl⟩ := bsl_open6 g6 (weight_each hWE (j := 6) rfl rfl)
      obtain ⟨z0, z1, z2, z3, k, hx7, _, e0, e1, e2, e3⟩ := trod_struct4 Tryz.underlying63 g7
      obtain ⟨m0, f7, _, _⟩ := DataW.trod_int (fuel := k) (cs := [c7]) Tryz.underlying3 (by simpa [Tryz.cells_int] using e0)
      obtain ⟨m1, f8, _, w8⟩ := DataW.trod_int (fuel := k) (cs := [c8]) Tryz.underlying61 (by simpa [Tryz.cells_u64] using e1)
      obtain ⟨m2, f9, _, w9⟩ := DataW.trod_int (fuel := k) (cs := [c9]) Tryz.underlying61 (by simpa [Tryz.cells_u64] using e2)
      obtain ⟨s10, f10, hx10, hs10⟩ := DataW.trod_string (fuel := k) (cs := [c10]) Tryz.underlying9 (by simpa [Tryz.cells_str] using e3)
      obtain ⟨ks, hk⟩ := ssl_open g8 (weight_each hWE (j := 8) rfl rfl)
      injection f0 with f0 _
      injection f1 with f1 _
      injection f2 with f2 _
      injection f3 with f3 _
      injection f4 with f4 _
      injection f5 with f5 _
      injection f7 with f7 _
      injection f8 with f8 _
      injection f9 with f9 _
      injection f10 with f10 _
      subst f0 f1 f2 f3 f4 f5 f7 f8 f9 f10
      have b3 := bounds_u64 w3
      have b4 := bounds_u64 w4
      have b8 := bounds_u64 w8
      have b9 := bounds_u64 w9
      have hs5 : s5.size ≤ 140737488351232 := weight_le (weight_each hWE (j := 5) (t := 9) rfl rfl) (by rw [hx5]; simp only [DataW.weights, List.mem_singleton]; rfl)
      have hW7 := weight_each hWE (j := 7) (t := 63) rfl rfl
      have hs10 : s10.size ≤ 140737488351232 := by
        rw [hx7] at hW7
        simp only [DataW.weights, Tryz.underlying63] at hW7
        exact weight_le (weight_each hW7 (j := 3) (t := 9) rfl rfl) (by rw [hx10]; simp only [DataW.weights, List.mem_singleton]; rfl)
      have hW9 := weight_each hWE (j := 9) (t := 22) rfl rfl
      have hv : ∃ is, VSl w c12 is := by
        rcases DataW.trod_slice Tryz.underlying22 g9 with ⟨hcs, _⟩ | ⟨a, len, cap, elems, rest, m, hfm, hcs, hx9, hb, hl, hm, hlen2, hel, _, _⟩
        · injection hcs with hcs _
          subst hcs
          exact ⟨[], ⟨none, 0, rfl, ⟨by simp, fun _ => rfl⟩, .inl rfl⟩, by simp⟩
        · injection hcs with hcs _
          subst hcs
          have hm2 : len ≤ 140737488351232 := by
            have h1 := weight_le hW9 (n := ((elems.map (·.1)).length + (rest.map (·.1)).length) * Tryz.prog.bytesOf 65) (by rw [hx9]; simp only [DataW.weights, Tryz.underlying22]; exact List.mem_cons_self ..)
            rw [Tryz.bytesValue, List.length_map] at h1
            omega
          have hwe : ∀ (i : Nat) (z : DataW H × List MemPlace), elems[i]? = some z → (z.1.weights Tryz.prog 65).all (· ≤ reachBytes) = true := fun i z hz => List.all_eq_true.2 fun n hn => by
            refine List.all_eq_true.1 hW9 n ?_
            rw [hx9]
            simp only [DataW.weights, Tryz.underlying22]
            exact List.mem_cons.2 (.inr (List.mem_append.2 (.inl (weights_all (List.mem_map.2 ⟨z, List.mem_of_getElem? hz, rfl⟩) n hn))))
          have each : ∀ i, i < len → ∃ t cs', Tin w t cs' ∧ ∀ j u, cs'[j]? = some u → w.cell? ((a.add (i * 13)).add j) = some u := by
            intro i hi
            have h1 := hel i hi
            rw [Tryz.cellsValue] at h1
            have h2 : ∃ z, elems[i]? = some z := ⟨elems[i]'(by omega), List.getElem?_eq_getElem (by omega)⟩
            obtain ⟨z, hz⟩ := h2
            rw [hz] at h1
            obtain ⟨cs', h3, h4⟩ := Option.bind_eq_some_iff.1 h1
            obtain ⟨t, ht⟩ := ih m (by omega) cs' z h4 (hwe i z hz)
            obtain ⟨_, hln, hcell⟩ := World.cells?_some h3
            refine ⟨t, cs'.toArray, ht, fun j u hu => ?_⟩
            rw [List.getElem?_toArray] at hu
            have hj : j < 13 := by
              have := (List.getElem?_eq_some_iff.1 hu).1
              omega
            rw [hcell j hj]
            exact hu
          exact vsl_of hl hm2 each
      obtain ⟨is, hi⟩ := hv
      refine ⟨.mk n0 b1 b2 n3.toNat n4.toNat s5 y ⟨m0, m1.toNat, m2.toNat, sl s10⟩ ks is, ?_⟩
      have q3 : ((n3.toNat : Nat) : Int) = n3 := by omega
      have q4 : ((n4.toNat : Nat) : Int) = n4 := by omega
      have q8 : ((m1.toNat : Nat) : Int) = m1 := by omega
      have q9 : ((m2.toNat : Nat) : Int) = m2 := by omega
      have hT := Tin.of (t := .mk n0 b1 b2 n3.toNat n4.toNat s5 y ⟨m0, m1.toNat, m2.toNat, sl s10⟩ ks is) (vy := c6) (vk := c11) (vi := c12) hy hk hi ⟨by show n3.toNat < _; omega, by show n4.toNat < _; omega, hs5, hyl, ⟨by show m1.toNat < _; omega, by show m2.toNat < _; omega, sl_byte s10, by show (sl s10).length ≤ _; rw [sl_len]; omega⟩, by show (sl s10).length ≤ _; rw [sl_len]; exact hs10⟩
      have e : vcs (.mk n0 b1 b2 n3.toNat n4.toNat s5 y ⟨m0, m1.toNat, m2.toNat, sl s10⟩ ks is) c6 c11 c12 = [.int .i64 n0, .bool b1, .bool b2, .int .u64 n3, .int .u64 n4, .string s5, c6, .int .i64 m0, .int .u64 m1, .int .u64 m2, .string s10, c11, c12].toArray := by
        simp only [vcs, Tv.k, Tv.f, Tv.g, Tv.n, Tv.b, Tv.s, Tv.l, nstr_sl, q3, q4, q8, q9]
      rw [e] at hT
      exact hT
/-- A slice of values opened. -/
theorem values_open {H : Type} {enc : TypeId × Value → H} {w : World} {base fuel : Nat} {held : Bool} {v : Value} {x : DataW H × List MemPlace} (h : DataW.trod enc Tryz.prog w base (fun _ => true) held fuel 22 [v] = some x) (hW : (x.1.weights Tryz.prog 22).all (· ≤ reachBytes) = true) : ∃ is, VSl w v is := by
  rcases DataW.trod_slice Tryz.underlying22 h with ⟨hcs, _⟩ | ⟨a, len, cap, elems, rest, m, hfm, hcs, hx9, hb, hl, hm, hlen2, hel, _, _⟩
  · injection hcs with hcs _
    subst hcs
    exact ⟨[], ⟨none, 0, rfl, ⟨by simp, fun _ => rfl⟩, .inl rfl⟩, by simp⟩
  · injection hcs with hcs _
    subst hcs
    have hm2 : len ≤ 140737488351232 := by
      have h1 := weight_le hW (n := ((elems.map (·.1)).length + (rest.map (·.1)).length) * Tryz.prog.bytesOf 65) (by rw [hx9]; simp only [DataW.weights, Tryz.underlying22]; exact List.mem_cons_self ..)
      rw [Tryz.bytesValue, List.length_map] at h1
      omega
    have hwe : ∀ (i : Nat) (z : DataW H × List MemPlace), elems[i]? = some z → (z.1.weights Tryz.prog 65).all (· ≤ reachBytes) = true := fun i z hz => List.all_eq_true.2 fun n hn => by
      refine List.all_eq_true.1 hW n ?_
      rw [hx9]
      simp only [DataW.weights, Tryz.underlying22]
      exact List.mem_cons.2 (.inr (List.mem_append.2 (.inl (weights_all (List.mem_map.2 ⟨z, List.mem_of_getElem? hz, rfl⟩) n hn))))
    refine vsl_of hl hm2 fun i hi => ?_
    have h1 := hel i hi
    rw [Tryz.cellsValue] at h1
    have h2 : ∃ z, elems[i]? = some z := ⟨elems[i]'(by omega), List.getElem?_eq_getElem (by omega)⟩
    obtain ⟨z, hz⟩ := h2
    rw [hz] at h1
    obtain ⟨cs', h3, h4⟩ := Option.bind_eq_some_iff.1 h1
    obtain ⟨t, ht⟩ := value_open m cs' z h4 (hwe i z hz)
    obtain ⟨_, hln, hcell⟩ := World.cells?_some h3
    refine ⟨t, cs'.toArray, ht, fun j u hu => ?_⟩
    rw [List.getElem?_toArray] at hu
    have hj : j < 13 := by
      have := (List.getElem?_eq_some_iff.1 hu).1
      omega
    rw [hcell j hj]
    exact hu
end
section
open Go.ChangeShapes Go.WideShapes Go.ChangeAt Go.RowKit Go.Deep Go.Joins Go
set_option maxRecDepth 100000 in
theorem trees7_open {H : Type} {enc : TypeId × Value → H} {w : World} {base b0 : Nat} {r : Reach} {held : Bool} {v : Value} {d : DataW H} {p : List MemPlace} (hv : Value.okWide Tryz.prog w r b0 25 v) (h : DataW.Trod enc Tryz.prog w base (fun _ => true) held 25 v d p) (hW : (d.weights Tryz.prog 25).all (· ≤ reachBytes) = true) :
    ∃ (vV vT : Value) (is : List Tv) (ts : List Nat), v = .agg #[vV, vT] ∧ VSl w vV is ∧ BSl w vT ts := by
  obtain ⟨c0, c1, y0, y1, m, rfl, hd, _, hy0, hy1⟩ := open_agg2 Tryz.underlying25 (by kernel_rfl) (show Tryz.prog.cellsOf 25 = 2 by kernel_rfl) hv h
  subst hd
  have hs2 : (DataW.weightsEach Tryz.prog [22, 23] [y0.1, y1.1]).all (· ≤ reachBytes) = true := by
    simp only [DataW.weights, Tryz.underlying25] at hW
    exact hW
  obtain ⟨is, his⟩ := values_open hy0 (weight_each hs2 (j := 0) rfl rfl)
  obtain ⟨ts, h1, _⟩ := bsl_open6 hy1 (weight_each hs2 (j := 1) rfl rfl)
  exact ⟨c0, c1, is, ts, rfl, his, h1⟩
end
section
open Go.RowKit Go
theorem acc_eq : (Rows.laid_unicode_utf8_acceptRanges : DataW Unit) = Lib.acceptData := by kernel_rfl
theorem fst_eq : Rows.laid_unicode_utf8_first = Lib.firstData := by kernel_rfl
theorem tabs_of_laid {W : World} (h : laidMet Tryz.prog [("unicode/utf8.acceptRanges", Rows.laid_unicode_utf8_acceptRanges), ("unicode/utf8.first", Rows.laid_unicode_utf8_first)] W) : Tabs W := by
  rw [acc_eq, fst_eq] at h
  exact utf8Tabs_of_readsT (U8Types.of196 Tryz.laysValid) ⟨by kernel_rfl, by kernel_rfl, by kernel_rfl, by kernel_rfl, by kernel_rfl, by kernel_rfl, by kernel_rfl⟩ (Lib.laidMet.reads h (.tail _ (.head _))) (Lib.laidMet.reads h (.head _))
/-- The settled world, the tables laid. -/
noncomputable def laidWorld6 (os : Os) : World :=
  let w0 := World.holding Tryz.prog os ⟨#[], #[], []⟩
  let put (h : Array Obj) (g : Nat) (cs : Array Value) : Array Obj := h.modify g fun
    | .cells _ t frozen => .cells cs t frozen
    | o => o
  let h1 := put w0.heap 2 (Lib.firstTab.map fun z => Value.int .u8 z).toArray
  let h2 := put h1 3 ((List.range 16).flatMap fun i => [Value.int .u8 (Lib.accLo i), Value.int .u8 (Lib.accHi i)]).toArray
  { w0 with heap := h2 }
theorem laid_met6 (os : Os) (args : Array Value) : laidMet Tryz.prog [("unicode/utf8.acceptRanges", Rows.laid_unicode_utf8_acceptRanges), ("unicode/utf8.first", Rows.laid_unicode_utf8_first)] ((laidWorld6 os).forCall (fun _ _ => 0) ⟨#[], args, []⟩).memory := by
  rw [acc_eq, fst_eq]
  exact (LaidIn.of_run (l := [("unicode/utf8.acceptRanges", Lib.acceptData), ("unicode/utf8.first", Lib.firstData)]) [3, 2] 8 (by kernel_rfl) (by kernel_rfl) (by kernel_rfl) (by kernel_rfl)).met
end
end Go.Proofs.YtjlknnpgngaooaaGreatDoor
