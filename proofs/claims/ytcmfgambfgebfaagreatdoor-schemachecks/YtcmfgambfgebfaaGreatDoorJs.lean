import Derived.Test.YtcmfgambfgebfaaGreatDoorJr
import Derived.Test.YtcmfgambfgebfaaGreatDoorJo
namespace Go.Proofs.YtcmfgambfgebfaaGreatDoor
section
open Go.RowKit Go
/-! ### begun: the list that it asks about -/
def pnm : ByteArray := ⟨#[112, 97, 105, 114]⟩
def lnm : ByteArray := ⟨#[108, 111, 111, 112]⟩
def nnm : ByteArray := ⟨#[110, 111, 110, 101]⟩
def pfs : List Fd := [⟨⟨#[108, 101, 102, 116]⟩, ⟨#[108]⟩, ⟨⟨#[105, 110, 116]⟩, false⟩, false⟩, ⟨⟨#[114, 105, 103, 104, 116]⟩, ⟨#[114]⟩, ⟨⟨#[112, 97, 105, 114]⟩, true⟩, false⟩]
def prT (nm : ByteArray) : List Tp := [⟨pnm, 5, 0, 0, zrf, pfs, [], []⟩, ⟨lnm, 3, 1, 2, ⟨nm, false⟩, [], [], []⟩]
theorem pr_chk : chk11 (prT lnm) = (0, 0) := by decide +kernel
theorem pr_bad : chk11 (prT nnm) = (114, 1) := by decide +kernel
theorem pr_fnd : fnd (prT lnm) pnm = (⟨pnm, 5, 0, 0, zrf, pfs, [], []⟩, true) := by
  have h : plc (prT lnm) pnm = some 0 := by decide +kernel
  unfold fnd
  rw [h]
  rfl
theorem pr_shrt (nm : ByteArray) : Shrt (prT nm) := by
  intro t ht
  unfold prT at ht
  rcases List.mem_cons.1 ht with rfl | ht
  · simp [pfs]
  · rw [List.mem_singleton.1 ht]
    simp
theorem pas1_memL {L : List ByteArray} {t : Tp} {x : ByteArray} (h : x ∈ L) : x ∈ pas1 L t := by
  unfold pas1
  split
  · exact putL_mem.2 (.inr h)
  · exact h
theorem pas_memL : ∀ (ts : List Tp) (L : List ByteArray) (x : ByteArray), x ∈ L → x ∈ pas L ts
  | [], _, _, h => h
  | t :: r, L, x, h => pas_memL r (pas1 L t) x (pas1_memL h)
theorem itr_onm (l : List Tp) : ∀ (k : Nat) (x : ByteArray), x ∈ onm → x ∈ itr l k
  | 0, _, h => h
  | k + 1, x, h => pas_memL l (itr l k) x (itr_onm l k x h)
theorem pr_pair {k : Nat} (h : (itr (prT lnm) (k + 1)).length ≤ (itr (prT lnm) k).length) : memb (itr (prT lnm) (k + 1)) pnm = true := by
  refine memb_iff.2 ((itr_closed _ _ h).2 ⟨pnm, 5, 0, 0, zrf, pfs, [], []⟩ (List.mem_cons_self ..) ?_)
  exact rulb_mono (L := onm) (fun x hx => itr_onm _ _ x hx) (by decide +kernel)
theorem pr_loop (k : Nat) : memb (itr (prT lnm) k) lnm = false := by
  cases hm : memb (itr (prT lnm) k) lnm with
  | false => rfl
  | true =>
    have h := itr_least (prT lnm) (M := pnm :: onm) (fun x hx => List.mem_cons_of_mem _ hx) (fun t ht hr => ?_) k lnm (memb_iff.1 hm)
    · exact absurd (memb_iff.2 h) (by decide +kernel)
    · unfold prT at ht
      rcases List.mem_cons.1 ht with rfl | ht
      · exact List.mem_cons_self ..
      · rw [List.mem_singleton.1 ht] at hr
        exact absurd hr (by decide +kernel)
def pfc : Array Value := #[.string ⟨#[108, 101, 102, 116]⟩, .string ⟨#[108]⟩, .string ⟨#[105, 110, 116]⟩, .bool false, .bool false, .string ⟨#[114, 105, 103, 104, 116]⟩, .string ⟨#[114]⟩, .string ⟨#[112, 97, 105, 114]⟩, .bool true, .bool false]
def ptc (f : Nat) (nm : ByteArray) : Array Value := #[.string ⟨#[112, 97, 105, 114]⟩, .int .i64 5, .int .i64 0, .int .i64 0, .string ⟨#[]⟩, .bool false, .slice (some ⟨f, 0, none⟩) 2 2, .slice none 0 0, .slice none 0 0, .string ⟨#[108, 111, 111, 112]⟩, .int .i64 3, .int .i64 1, .int .i64 2, .string nm, .bool false, .slice none 0 0, .slice none 0 0, .slice none 0 0]
theorem ssl_nil (w : World) : SSl w (.slice none 0 0) [] := ⟨⟨none, 0, rfl, ⟨Nat.le_refl _, fun _ => rfl⟩, .inl rfl⟩, Nat.zero_le _, fun _ h => by cases h⟩
/-- The list in memory. -/
structure Prw (w : World) (f g : Nat) (nm : ByteArray) : Prop where
  hf : w.heap[f]? = some (.cells pfc 77 (0, 0))
  hg : w.heap[g]? = some (.cells (ptc f nm) 45 (0, 0))
  n : f ≠ g
theorem Prw.next {w w' : World} {f g : Nat} {nm : ByteArray} (h : Prw w f g nm) (hb : Below w.heap.size w w') : Prw w' f g nm := ⟨(hb.block _ (blk_lt h.hf)).trans h.hf, (hb.block _ (blk_lt h.hg)).trans h.hg, h.n⟩
theorem Prw.set {w : World} {f g : Nat} {nm nm' : ByteArray} (h : Prw w f g nm) : Prw (w.setCell ⟨g, 13, none⟩ (.string nm')) f g nm' := ⟨blk_other 13 _ h.hf h.n, blk_set 13 _ h.hg, h.n⟩
theorem Prw.tsl {w : World} {f g : Nat} {nm : ByteArray} (h : Prw w f g nm) (hn : nm.size ≤ 140737488351232) : TSl w (.slice (some ⟨g, 0, none⟩) 2 2) (prT nm) := by
  have hF : FSl w (.slice (some ⟨f, 0, none⟩) 2 2) pfs := by
    refine ⟨⟨some ⟨f, 0, none⟩, 2, rfl, ⟨Nat.le_refl _, fun e => by cases e⟩, .inr ⟨f, 0, rfl, fun i x hi => ?_⟩⟩, by decide⟩
    rcases i with _ | _ | i
    · have e : x = ⟨⟨#[108, 101, 102, 116]⟩, ⟨#[108]⟩, ⟨⟨#[105, 110, 116]⟩, false⟩, false⟩ := (Option.some.inj hi).symm
      subst e
      refine ⟨_, ⟨rfl, by decide, by decide, by decide⟩, fun j u hj => ?_⟩
      rcases j with _ | _ | _ | _ | _ | j
      all_goals first
        | exact blk_cell h.hf hj
        | (exact absurd hj (by simp [fdc]))
    · have e : x = ⟨⟨#[114, 105, 103, 104, 116]⟩, ⟨#[114]⟩, ⟨⟨#[112, 97, 105, 114]⟩, true⟩, false⟩ := (Option.some.inj hi).symm
      subst e
      refine ⟨_, ⟨rfl, by decide, by decide, by decide⟩, fun j u hj => ?_⟩
      rcases j with _ | _ | _ | _ | _ | j
      all_goals first
        | exact blk_cell h.hf hj
        | (exact absurd hj (by simp [fdc]))
    · simp [pfs] at hi
  refine ⟨⟨some ⟨g, 0, none⟩, 2, rfl, ⟨Nat.le_refl _, fun e => by cases e⟩, .inr ⟨g, 0, rfl, fun i x hi => ?_⟩⟩, by simp [prT]⟩
  rcases i with _ | _ | i
  · have e : x = ⟨pnm, 5, 0, 0, zrf, pfs, [], []⟩ := (Option.some.inj hi).symm
    subst e
    refine ⟨_, ⟨⟨_, _, _, rfl, hF, GSl.nil, ssl_nil w⟩, ⟨by decide, by decide, by decide, by decide, by decide⟩⟩, fun j u hj => ?_⟩
    rcases j with _ | _ | _ | _ | _ | _ | _ | _ | _ | j
    all_goals first
      | exact blk_cell h.hg hj
      | (exact absurd hj (by simp [tpc]))
  · have e : x = ⟨lnm, 3, 1, 2, ⟨nm, false⟩, [], [], []⟩ := (Option.some.inj hi).symm
    subst e
    refine ⟨_, ⟨⟨_, _, _, rfl, GSl.nil, GSl.nil, ssl_nil w⟩, ⟨(by decide : lnm.size ≤ 140737488351232), hn, (by decide : -9223372036854775808 ≤ (3 : Int) ∧ (3 : Int) ≤ 9223372036854775807), (by decide : -9223372036854775808 ≤ (1 : Int) ∧ (1 : Int) ≤ 9223372036854775807), (by decide : -9223372036854775808 ≤ (2 : Int) ∧ (2 : Int) ≤ 9223372036854775807)⟩⟩, fun j u hj => ?_⟩
    rcases j with _ | _ | _ | _ | _ | _ | _ | _ | _ | j
    all_goals first
      | exact blk_cell h.hg hj
      | (exact absurd hj (by simp [tpc]))
  · simp [prT] at hi
theorem alloc4_at (w : World) (o1 o2 o3 o4 : Obj) : ((((w.alloc o1).alloc o2).alloc o3).alloc o4).heap[w.heap.size + 1 + 1]? = some o3 ∧ ((((w.alloc o1).alloc o2).alloc o3).alloc o4).heap[w.heap.size + 1 + 1 + 1]? = some o4 ∧ Below w.heap.size w ((((w.alloc o1).alloc o2).alloc o3).alloc o4) := by
  have e1 : (w.alloc o1).heap.size = w.heap.size + 1 := by simp
  have e2 : ((w.alloc o1).alloc o2).heap.size = w.heap.size + 1 + 1 := by rw [← e1]; simp
  have e3 : (((w.alloc o1).alloc o2).alloc o3).heap.size = w.heap.size + 1 + 1 + 1 := by rw [← e2]; simp
  have h3 := heap_alloc_new ((w.alloc o1).alloc o2) o3
  have h4 := heap_alloc_new (((w.alloc o1).alloc o2).alloc o3) o4
  rw [e2] at h3
  rw [e3] at h4
  exact ⟨blk_alloc _ h3, h4, (((below_alloc4 w o1).alloc (by omega) _).alloc (by omega) _).alloc (by omega) _⟩
set_option maxRecDepth 1000000 in
set_option maxHeartbeats 1000000 in
theorem pair_any (w : World) : Calls Tryz.prog 14 #[] w fun e w' => ∃ f g, e = .returned (.slice (some ⟨g, 0, none⟩) 2 2) ∧ Hid (Prw w' f g lnm ∧ w.heap.size ≤ f ∧ w.heap.size ≤ g ∧ Below w.heap.size w w') := by
  go_enter Tryz.func14, Tryz.ntmps14
  go_wp2_with fail
  go_ret
  obtain ⟨h1, h2, h3⟩ := alloc4_at w (.cells #[.string ⟨#[108, 101, 102, 116]⟩, .string ⟨#[108]⟩, .string ⟨#[105, 110, 116]⟩, .bool false, .bool false] 77) (.cells #[.string ⟨#[114, 105, 103, 104, 116]⟩, .string ⟨#[114]⟩, .string ⟨#[112, 97, 105, 114]⟩, .bool true, .bool false] 77) (.cells pfc 77) (.cells (ptc (w.heap.size + 1 + 1) lnm) 45)
  exact ⟨w.heap.size + 1 + 1, w.heap.size + 1 + 1 + 1, rfl, ⟨h1, h2, by omega⟩, by omega, by omega, h3⟩
end
section
open Go.RowKit Go
set_option maxRecDepth 1000000 in
theorem num11_any (n : Int) (w : World) : Calls Tryz.prog 9 #[.int .i64 n] w fun e w' => e = .returned (.int .i64 n) ∧ w' = w := by
  go_enter Tryz.func9, Tryz.ntmps9
  go_wp2_with fail
  go_ret
  exact ⟨rfl, rfl⟩
theorem otb_kp {w wx wy : World} {g : Nat} (h : Otb w) (hb : Below w.heap.size w wx) (hg : w.heap.size ≤ g) (hk : Kp (fun q => q = g) wx wy) : Otb wy := ⟨fun j u hj => by
  have h1 := h.c j u hj
  have hlt := World.block_lt_of_cell? w _ h1
  refine hk.cell (keep_below hb _ _ h1) (fun e => ?_)
  have e' : 0 = g := e
  have hlt' : 0 < w.heap.size := hlt
  omega⟩
set_option maxRecDepth 1000000 in
set_option maxHeartbeats 4000000 in
theorem begun11_any (w : World) (hT : Tabs w) (hO : Otb w) : Calls Tryz.prog 4 #[] w fun e w' => e = .returned (.bool true) ∧ Below w.heap.size w w' := by
  have HT : Hid (∀ wy, Below w.heap.size w wy → Tabs wy) := fun wy hb => hT.next hb
  have HO : Hid (∀ wy, Below w.heap.size w wy → Otb wy) := fun wy hb => hO.next (keep_below hb)
  have HOT := hide hO
  have HNU := hide (fun n W => num11_any n W)
  clear hT hO
  go_enter Tryz.func4, Tryz.ntmps4
  go_wp2_with fail
  refine (pair_any w).mono ?_
  rintro e w1 ⟨f, g, rfl, hP⟩
  have HP1 := hide hP.out.1
  have HN := hide (And.intro hP.out.2.1 hP.out.2.2.1)
  have HB1 := hide hP.out.2.2.2
  have HC1 : Hid (Calls Tryz.prog 7 #[.slice (some ⟨g, 0, none⟩) 2 2] w1 fun e w' => e = .returned (.tuple #[.int .i64 0, .int .i64 0]) ∧ Below w1.heap.size w1 w') := by
    have h := check11_any w1 (HT.out w1 HB1.out) (HO.out w1 HB1.out) _ _ (HP1.out.tsl (by decide)) (pr_shrt _)
    rw [pr_chk] at h
    exact h
  clear hP
  go_wp2_with fail
  refine HC1.out.mono ?_
  rintro e w2 ⟨rfl, hb2⟩
  have HB2 : Hid (Below w.heap.size w w2) := HB1.out.trans (hb2.mono HB1.out.size)
  have HP2 := hide (HP1.out.next hb2)
  clear HC1 HP1 HB1 hb2
  have HC2 : Hid (Calls Tryz.prog 11 #[.slice (some ⟨g, 0, none⟩) 2 2] w2 fun e w' => ∃ t, e = .returned (.tuple #[.pointer (some ⟨t, 0, none⟩), .int .i64 0]) ∧ Hid (w2.heap.size ≤ t ∧ Tbm w' w2.heap.size t (prT lnm) 0 (.map none) ∧ Below w2.heap.size w2 w')) := by
    have h := open_any w2 (HT.out w2 HB2.out) (HO.out w2 HB2.out) _ _ (HP2.out.tsl (by decide)) (pr_shrt _)
    rw [pr_chk] at h
    refine h.mono ?_
    rintro e w' ⟨⟨vp, rfl, _, h2⟩, h3⟩
    obtain ⟨t, rfl, h4, h5⟩ := h2 rfl
    exact ⟨t, rfl, h4, h5, h3⟩
  go_wp2_with fail
  refine HC2.out.mono ?_
  rintro e w3 ⟨t, rfl, hP⟩
  have HTG := hide hP.out.1
  have HTB := hide hP.out.2.1
  have hb3 := hP.out.2.2
  have HB3 : Hid (Below w.heap.size w w3) := HB2.out.trans (hb3.mono HB2.out.size)
  have HP3 := hide (HP2.out.next hb3)
  have HGL : Hid (g < w2.heap.size) := blk_lt HP2.out.hg
  clear HC2 HP2 hP hb3
  go_wp2_with (first
    | (go_at_call 9
       refine (HNU.out _ _).mono ?_
       rintro e wq ⟨rfl, rfl⟩))
  have HC3 : Hid (Calls Tryz.prog 15 #[.pointer (some ⟨t, 0, none⟩), .string ⟨#[112, 97, 105, 114]⟩] wq fun e w' => ∃ c, e = .returned (.tuple #[.agg c, .bool true]) ∧ Hid (Tpi w' ⟨pnm, 5, 0, 0, zrf, pfs, [], []⟩ c ∧ Below wq.heap.size wq w')) := by
    have h := tfind_any wq (HO.out wq HB3.out) t (prT lnm) 0 (.map none) HTB.out.tbl (pr_shrt _) pnm (by decide)
    rw [pr_fnd] at h
    exact h
  refine HC3.out.mono ?_
  rintro e w4 ⟨c, rfl, hP⟩
  have hb4 := hP.out.2
  obtain ⟨⟨vf, vc, vw, hc, ⟨⟨af, cf, hvf, -, -⟩, -⟩, ⟨⟨ac, cc, hvc, -, -⟩, -⟩, ⟨⟨aw, cw, hvw, -, -⟩, -, -⟩⟩, -⟩ := hP.out.1
  subst hvf
  subst hvc
  subst hvw
  have hc' : c = #[.string ⟨#[112, 97, 105, 114]⟩, .int .i64 5, .int .i64 0, .int .i64 0, .string ⟨#[]⟩, .bool false, .slice af 2 cf, .slice ac 0 cc, .slice aw 0 cw] := hc
  clear hP hc HC3
  subst hc'
  have hb5 := below_alloc4 w4 (.cells #[.string ⟨#[112, 97, 105, 114]⟩, .int .i64 5, .int .i64 0, .int .i64 0, .string ⟨#[]⟩, .bool false, .slice af 2 cf, .slice ac 0 cc, .slice aw 0 cw] 45)
  have hx5 := heap_alloc_new w4 (.cells #[.string ⟨#[112, 97, 105, 114]⟩, .int .i64 5, .int .i64 0, .int .i64 0, .string ⟨#[]⟩, .bool false, .slice af 2 cf, .slice ac 0 cc, .slice aw 0 cw] 45)
  have hp5 := (HP3.out.next hb4).next hb5
  have g13 := blk_cell (j := 13) (v := .string lnm) hp5.hg rfl
  have z13 := blk_frozen 13 hp5.hg
  have hbx : Below w.heap.size w (w4.alloc (.cells #[.string ⟨#[112, 97, 105, 114]⟩, .int .i64 5, .int .i64 0, .int .i64 0, .string ⟨#[]⟩, .bool false, .slice af 2 cf, .slice ac 0 cc, .slice aw 0 cw] 45)) := (HB3.out.trans (hb4.mono HB3.out.size)).trans (hb5.mono (Nat.le_trans HB3.out.size hb4.size))
  have hkx : Kp (fun q => q = g) (w4.alloc (.cells #[.string ⟨#[112, 97, 105, 114]⟩, .int .i64 5, .int .i64 0, .int .i64 0, .string ⟨#[]⟩, .bool false, .slice af 2 cf, .slice ac 0 cc, .slice aw 0 cw] 45)) ((w4.alloc (.cells #[.string ⟨#[112, 97, 105, 114]⟩, .int .i64 5, .int .i64 0, .int .i64 0, .string ⟨#[]⟩, .bool false, .slice af 2 cf, .slice ac 0 cc, .slice aw 0 cw] 45)).setCell ⟨g, 13, none⟩ (.string ⟨#[110, 111, 110, 101]⟩)) := (Kp.refl (fun q => q = g) _).setCell _ _ (fun _ => rfl)
  have HP6 : Hid (Prw ((w4.alloc (.cells #[.string ⟨#[112, 97, 105, 114]⟩, .int .i64 5, .int .i64 0, .int .i64 0, .string ⟨#[]⟩, .bool false, .slice af 2 cf, .slice ac 0 cc, .slice aw 0 cw] 45)).setCell ⟨g, 13, none⟩ (.string ⟨#[110, 111, 110, 101]⟩)) f g nnm) := hp5.set
  have HB6 : Hid (Below w.heap.size w ((w4.alloc (.cells #[.string ⟨#[112, 97, 105, 114]⟩, .int .i64 5, .int .i64 0, .int .i64 0, .string ⟨#[]⟩, .bool false, .slice af 2 cf, .slice ac 0 cc, .slice aw 0 cw] 45)).setCell ⟨g, 13, none⟩ (.string ⟨#[110, 111, 110, 101]⟩))) := hbx.trans (hkx.below hbx.size (fun q e => by rw [e]; exact HN.out.2))
  have HTB6 : Hid (Tbm ((w4.alloc (.cells #[.string ⟨#[112, 97, 105, 114]⟩, .int .i64 5, .int .i64 0, .int .i64 0, .string ⟨#[]⟩, .bool false, .slice af 2 cf, .slice ac 0 cc, .slice aw 0 cw] 45)).setCell ⟨g, 13, none⟩ (.string ⟨#[110, 111, 110, 101]⟩)) w2.heap.size t (prT lnm) 0 (.map none)) := ((HTB.out.next hb4).next hb5).kp hkx (fun q e => by rw [e]; exact HGL.out) HTG.out
  have HX6 : Hid (((w4.alloc (.cells #[.string ⟨#[112, 97, 105, 114]⟩, .int .i64 5, .int .i64 0, .int .i64 0, .string ⟨#[]⟩, .bool false, .slice af 2 cf, .slice ac 0 cc, .slice aw 0 cw] 45)).setCell ⟨g, 13, none⟩ (.string ⟨#[110, 111, 110, 101]⟩)).heap[w4.heap.size]? = some (.cells #[.string ⟨#[112, 97, 105, 114]⟩, .int .i64 5, .int .i64 0, .int .i64 0, .string ⟨#[]⟩, .bool false, .slice af 2 cf, .slice ac 0 cc, .slice aw 0 cw] 45 (0, 0))) := blk_other 13 _ hx5 (fun e => by have h1 := blk_lt (HP3.out.next hb4).hg; omega)
  clear hb4 hb5 hx5 hp5 hbx hkx HTB HP3 HB3
  go_wp2_with fail
  clear g13 z13
  generalize (w4.alloc (.cells #[.string ⟨#[112, 97, 105, 114]⟩, .int .i64 5, .int .i64 0, .int .i64 0, .string ⟨#[]⟩, .bool false, .slice af 2 cf, .slice ac 0 cc, .slice aw 0 cw] 45)).setCell ⟨g, 13, none⟩ (.string ⟨#[110, 111, 110, 101]⟩) = w6 at *
  generalize w4.heap.size = x at *
  have HC4 : Hid (Calls Tryz.prog 7 #[.slice (some ⟨g, 0, none⟩) 2 2] w6 fun e w' => e = .returned (.tuple #[.int .i64 114, .int .i64 1]) ∧ Below w6.heap.size w6 w') := by
    have h := check11_any w6 (HT.out w6 HB6.out) (HO.out w6 HB6.out) _ _ (HP6.out.tsl (by decide)) (pr_shrt _)
    rw [pr_bad] at h
    exact h
  refine HC4.out.mono ?_
  rintro e w7 ⟨rfl, hb7⟩
  have HB7 : Hid (Below w.heap.size w w7) := HB6.out.trans (hb7.mono HB6.out.size)
  have x1 : w7.cell? ⟨x, 1, none⟩ = some (.int .i64 5) := blk_cell (j := 1) ((hb7.block _ (blk_lt HX6.out)).trans HX6.out) rfl
  obtain ⟨vt, B, hq1, hq2⟩ := (HTB6.out.next hb7).e
  have hwt : w.heap.size ≤ t := Nat.le_trans HB2.out.size HTG.out
  have HC5 : Hid (Calls Tryz.prog 16 #[.pointer (some ⟨t, 0, none⟩), .string ⟨#[112, 97, 105, 114]⟩] w7 fun e w' => e = .returned (.bool true) ∧ Hid (Below w.heap.size w w' ∧ Calls Tryz.prog 16 #[.pointer (some ⟨t, 0, none⟩), .string ⟨#[108, 111, 111, 112]⟩] w' fun e w'' => e = .returned (.bool false) ∧ Below w.heap.size w w'')) := by
    refine (tfilled_first w7 t vt B (prT lnm) (.map none) pnm (by decide) hq1 (fun wy hk => (hq2 wy (hk.mono (fun _ _ e => .inr e))).t) (fun wy hk => otb_kp HOT.out HB7.out hwt hk) (by decide)).mono ?_
    rintro e w8 ⟨M, k, rfl, hP⟩
    obtain ⟨h1, ⟨n, h2⟩, h3, h4, _⟩ := hP.out
    have hb8 : Below w.heap.size w w8 := HB7.out.trans (h4.below HB7.out.size (fun q e => by rw [e]; exact hwt))
    refine ⟨by rw [pr_pair h1], hb8, (tfilled_again w8 t vt B M n _ lnm (by decide) h3 h2).mono ?_⟩
    rintro e w9 ⟨rfl, hb9⟩
    exact ⟨by rw [pr_loop], hb8.trans (hb9.mono hb8.size)⟩
  clear HC4 HX6 HTB6 HP6 hb7 hq1 hq2 hwt HB6 HO HT HOT HN HTG HGL HB2 HB7
  go_wp2_with fail
  refine HC5.out.mono ?_
  rintro e w8 ⟨rfl, hP⟩
  clear HC5 x1
  go_wp2_with fail
  refine hP.out.2.mono ?_
  rintro e w9 ⟨rfl, hb9⟩
  have HB9 := hide hb9
  clear hb9 hP
  go_wp2_with (first
    | (go_at_call 9
       refine (HNU.out _ _).mono ?_
       rintro e wz ⟨rfl, rfl⟩))
  go_ret
  exact ⟨rfl, HB9.out⟩
end
section
open Go.RowKit Go
/-! ### has -/
end
section
open Go.RowKit Go
/-! ### can -/
end
section
open Go.RowKit Go
/-! ### SchemaFilled, plainly -/
def own9 : List ByteArray := owns.map (·.1)
def fll (F : List ByteArray) (l : List Tp) : List ByteArray := (l.filter fun t => memb F t.n).map (·.n)
def frd1 (all A : List ByteArray) (t : Tp) : List ByteArray := if (memb all t.n && (!memb A t.n && rulb A t)) = true then A ++ [t.n] else A
def frd (all A : List ByteArray) (l : List Tp) : List ByteArray := l.foldl (frd1 all) A
def frds (all : List ByteArray) (l : List Tp) : Nat → List ByteArray
  | 0 => own9
  | n + 1 => frd all (frds all l n) l
theorem own9_nodup : own9.Nodup := by decide +kernel
/-- What a round keeps. -/
structure Rdi (F : List ByteArray) (l : List Tp) (A : List ByteArray) : Prop where
  nd : A.Nodup
  sub : ∀ x ∈ A, x ∈ own9 ++ fll F l
  own : ∀ x ∈ own9, x ∈ A
theorem Rdi.one {F : List ByteArray} {l : List Tp} {A : List ByteArray} (h : Rdi F l A) (t : Tp) : Rdi F l (frd1 (fll F l) A t) := by
  unfold frd1
  split
  · next hc =>
    rw [Bool.and_eq_true, Bool.and_eq_true] at hc
    have hn : t.n ∉ A := fun e => by
      have := hc.2.1
      rw [memb_iff.2 e] at this
      cases this
    refine ⟨List.nodup_append.2 ⟨h.nd, by simp, fun a ha b hb e => ?_⟩, fun x hx => ?_, fun x hx => List.mem_append_left _ (h.own x hx)⟩
    · rw [List.mem_singleton.1 hb] at e
      exact hn (e ▸ ha)
    · rcases List.mem_append.1 hx with hx | hx
      · exact h.sub x hx
      · rw [List.mem_singleton.1 hx]
        exact List.mem_append_right _ (memb_iff.1 hc.1)
  · exact h
theorem Rdi.round {F : List ByteArray} {l : List Tp} : ∀ (ts : List Tp) {A : List ByteArray}, Rdi F l A → Rdi F l (frd (fll F l) A ts)
  | [], _, h => h
  | t :: r, _, h => Rdi.round r (h.one t)
theorem Rdi.all {F : List ByteArray} {l : List Tp} : ∀ n, Rdi F l (frds (fll F l) l n)
  | 0 => ⟨own9_nodup, fun _ h => List.mem_append_left _ h, fun _ h => h⟩
  | n + 1 => Rdi.round l (Rdi.all n)
end
section
open Go.RowKit Go
/-! ### The reference's copies -/
set_option maxRecDepth 1000000 in
set_option maxHeartbeats 1000000 in
theorem copyF_any (w : World) (v : Value) (xs : List Fd) (hv : FSl w v xs) (hn : xs.length ≤ 1000000) : Calls Tryz.prog 65 #[v] w fun e w' => ∃ v', e = .returned v' ∧ Hid (FSl w' v' xs ∧ Below w.heap.size w w' ∧ ∀ q, v'.ownBlock = some q → w.heap.size ≤ q) := by
  have HV := hide hv
  obtain ⟨⟨a, cap, rfl, hcap, hform⟩, hmax⟩ := hv
  have HN := hide hn
  have HC : Hid ((xs.map fdc) = [] ∨ ∃ b off, a = some ⟨b, off, none⟩ ∧ ∀ (i : Nat) (d : Array Value), (xs.map fdc)[i]? = some d → ∀ j u, d[j]? = some u → w.cell? ⟨b, off + i * 5 + j, none⟩ = some u) := by
    rcases hform with h | ⟨b, off, e, h⟩
    · exact .inl (by rw [h]; rfl)
    · refine .inr ⟨b, off, e, fun i d hd j u hu => ?_⟩
      rw [List.getElem?_map] at hd
      cases hx : xs[i]? with
      | none => rw [hx] at hd; cases hd
      | some x =>
        rw [hx] at hd
        injection hd with hd
        subst hd
        obtain ⟨c, ⟨hcx, _⟩, hcell⟩ := h i x hx
        subst hcx
        exact hcell j u hu
  have HL : Hid (∀ c ∈ xs.map fdc, c.size = 5) := fun c hc => by obtain ⟨x, _, rfl⟩ := List.mem_map.1 hc; rfl
  have H1 : Hid (∀ u ∈ gfl (xs.map fdc), u.oneCell' = true) := fun u hu => by
    obtain ⟨c, hc, hu⟩ := List.mem_flatMap.1 hu
    obtain ⟨x, _, rfl⟩ := List.mem_map.1 hc
    simp only [fdc, List.mem_cons, List.not_mem_nil, or_false] at hu
    rcases hu with rfl | rfl | rfl | rfl | rfl <;> rfl
  have HC0 := hide hcap.2
  have HLE : Hid ((xs.map fdc).length = xs.length) := by show _ = _; rw [List.length_map]
  have HAP : Hid (∀ (ops : Array Oper) (rest : List Oper) (o : Oper) (ac : Act) (Q : Exit → Act → World → Prop) (s y : Operand), o.guard = none → o.op = .call { callee := .builtin .append, args := #[s, y], argTypes := #[41, 41] } → ac.eval s = .slice none 0 0 → ac.eval y = .slice a xs.length cap → (∀ v' w', w'.ownsRow w.heap.size 77 5 v' (xs.map fdc).length (gfl (xs.map fdc)) → Below w.heap.size w w' → wpList Tryz.prog ops Q rest (ac.put o.dst v') w') → wpList Tryz.prog ops Q (o :: rest) ac w) := fun ops rest o ac Q s y h1 h2 h3 h4 h5 => append_all infoF3 Tryz.underlying41 rfl (by decide) (by decide) h1 h2 h3 (by rw [HLE.out]; exact h4) HL.out H1.out (by rw [HLE.out]; exact HN.out) HC0.out HC.out h5
  clear hform hcap hn
  go_enter Tryz.func65, Tryz.ntmps65
  go_wp2_with (refine HAP.out _ _ _ _ _ _ _ rfl rfl rfl rfl ?_; intro v' w' ho hb)
  go_ret
  refine ⟨_, rfl, ?_, hb, fun q e => (ho.lt q e).1⟩
  exact own_gsl (xs := xs) ho HL.out HLE.out HV.out.max (fun i x c hx hc => by
    rw [List.getElem?_map, hx] at hc
    injection hc with hc
    subst hc
    rcases HV.out.form with ⟨_, _, _, _, h | ⟨b, off, _, h⟩⟩
    · rw [h] at hx; cases hx
    · obtain ⟨c', hP, _⟩ := h i x hx
      exact ⟨rfl, hP.2⟩)

set_option maxRecDepth 1000000 in
set_option maxHeartbeats 1000000 in
theorem copyC_any (w : World) (v : Value) (xs : List Cz) (hv : CSl w v xs) (hn : xs.length ≤ 1000000) : Calls Tryz.prog 66 #[v] w fun e w' => ∃ v', e = .returned v' ∧ Hid (CSl w' v' xs ∧ Below w.heap.size w w' ∧ ∀ q, v'.ownBlock = some q → w.heap.size ≤ q) := by
  have HV := hide hv
  obtain ⟨⟨a, cap, rfl, hcap, hform⟩, hmax⟩ := hv
  have HN := hide hn
  have HC : Hid ((xs.map czc) = [] ∨ ∃ b off, a = some ⟨b, off, none⟩ ∧ ∀ (i : Nat) (d : Array Value), (xs.map czc)[i]? = some d → ∀ j u, d[j]? = some u → w.cell? ⟨b, off + i * 2 + j, none⟩ = some u) := by
    rcases hform with h | ⟨b, off, e, h⟩
    · exact .inl (by rw [h]; rfl)
    · refine .inr ⟨b, off, e, fun i d hd j u hu => ?_⟩
      rw [List.getElem?_map] at hd
      cases hx : xs[i]? with
      | none => rw [hx] at hd; cases hd
      | some x =>
        rw [hx] at hd
        injection hd with hd
        subst hd
        obtain ⟨c, ⟨hcx, _⟩, hcell⟩ := h i x hx
        subst hcx
        exact hcell j u hu
  have HL : Hid (∀ c ∈ xs.map czc, c.size = 2) := fun c hc => by obtain ⟨x, _, rfl⟩ := List.mem_map.1 hc; rfl
  have H1 : Hid (∀ u ∈ gfl (xs.map czc), u.oneCell' = true) := fun u hu => by
    obtain ⟨c, hc, hu⟩ := List.mem_flatMap.1 hu
    obtain ⟨x, _, rfl⟩ := List.mem_map.1 hc
    simp only [czc, List.mem_cons, List.not_mem_nil, or_false] at hu
    rcases hu with rfl | rfl <;> rfl
  have HC0 := hide hcap.2
  have HLE : Hid ((xs.map czc).length = xs.length) := by show _ = _; rw [List.length_map]
  have HAP : Hid (∀ (ops : Array Oper) (rest : List Oper) (o : Oper) (ac : Act) (Q : Exit → Act → World → Prop) (s y : Operand), o.guard = none → o.op = .call { callee := .builtin .append, args := #[s, y], argTypes := #[42, 42] } → ac.eval s = .slice none 0 0 → ac.eval y = .slice a xs.length cap → (∀ v' w', w'.ownsRow w.heap.size 102 2 v' (xs.map czc).length (gfl (xs.map czc)) → Below w.heap.size w w' → wpList Tryz.prog ops Q rest (ac.put o.dst v') w') → wpList Tryz.prog ops Q (o :: rest) ac w) := fun ops rest o ac Q s y h1 h2 h3 h4 h5 => append_all infoC3 Tryz.underlying42 rfl (by decide) (by decide) h1 h2 h3 (by rw [HLE.out]; exact h4) HL.out H1.out (by rw [HLE.out]; exact HN.out) HC0.out HC.out h5
  clear hform hcap hn
  go_enter Tryz.func66, Tryz.ntmps66
  go_wp2_with (refine HAP.out _ _ _ _ _ _ _ rfl rfl rfl rfl ?_; intro v' w' ho hb)
  go_ret
  refine ⟨_, rfl, ?_, hb, fun q e => (ho.lt q e).1⟩
  exact own_gsl (xs := xs) ho HL.out HLE.out HV.out.max (fun i x c hx hc => by
    rw [List.getElem?_map, hx] at hc
    injection hc with hc
    subst hc
    rcases HV.out.form with ⟨_, _, _, _, h | ⟨b, off, _, h⟩⟩
    · rw [h] at hx; cases hx
    · obtain ⟨c', hP, _⟩ := h i x hx
      exact ⟨rfl, hP.2⟩)

set_option maxRecDepth 1000000 in
set_option maxHeartbeats 1000000 in
theorem copyS_any (w : World) (v : Value) (xs : List ByteArray) (hv : SSl w v xs) (hn : xs.length ≤ 1000000) : Calls Tryz.prog 67 #[v] w fun e w' => ∃ v', e = .returned v' ∧ Hid (SSl w' v' xs ∧ Below w.heap.size w w' ∧ w'.ownsRow w.heap.size 9 1 v' xs.length (gfl (xs.map (fun s => #[Value.string s])))) := by
  have HV := hide hv
  obtain ⟨⟨a, cap, rfl, hcap, hform⟩, hmax, _⟩ := hv
  have HN := hide hn
  have HC : Hid ((xs.map (fun s => #[Value.string s])) = [] ∨ ∃ b off, a = some ⟨b, off, none⟩ ∧ ∀ (i : Nat) (d : Array Value), (xs.map (fun s => #[Value.string s]))[i]? = some d → ∀ j u, d[j]? = some u → w.cell? ⟨b, off + i * 1 + j, none⟩ = some u) := by
    rcases hform with h | ⟨b, off, e, h⟩
    · exact .inl (by rw [h]; rfl)
    · refine .inr ⟨b, off, e, fun i d hd j u hu => ?_⟩
      rw [List.getElem?_map] at hd
      cases hx : xs[i]? with
      | none => rw [hx] at hd; cases hd
      | some x =>
        rw [hx] at hd
        injection hd with hd
        subst hd
        rcases j with _ | j
        · have e1 : u = .string x := by simpa using hu.symm
          subst e1
          rw [Nat.mul_one, Nat.add_zero]
          exact h i x hx
        · simp at hu
  have HL : Hid (∀ c ∈ xs.map (fun s => #[Value.string s]), c.size = 1) := fun c hc => by obtain ⟨x, _, rfl⟩ := List.mem_map.1 hc; rfl
  have H1 : Hid (∀ u ∈ gfl (xs.map (fun s => #[Value.string s])), u.oneCell' = true) := fun u hu => by
    obtain ⟨c, hc, hu⟩ := List.mem_flatMap.1 hu
    obtain ⟨x, _, rfl⟩ := List.mem_map.1 hc
    simp only [List.mem_cons, List.not_mem_nil, or_false] at hu
    rw [hu]; rfl
  have HC0 := hide hcap.2
  have HLE : Hid ((xs.map (fun s => #[Value.string s])).length = xs.length) := by show _ = _; rw [List.length_map]
  have HAP : Hid (∀ (ops : Array Oper) (rest : List Oper) (o : Oper) (ac : Act) (Q : Exit → Act → World → Prop) (s y : Operand), o.guard = none → o.op = .call { callee := .builtin .append, args := #[s, y], argTypes := #[43, 43] } → ac.eval s = .slice none 0 0 → ac.eval y = .slice a xs.length cap → (∀ v' w', w'.ownsRow w.heap.size 9 1 v' (xs.map (fun s => #[Value.string s])).length (gfl (xs.map (fun s => #[Value.string s]))) → Below w.heap.size w w' → wpList Tryz.prog ops Q rest (ac.put o.dst v') w') → wpList Tryz.prog ops Q (o :: rest) ac w) := fun ops rest o ac Q s y h1 h2 h3 h4 h5 => append_all infoS3 Tryz.underlying43 rfl (by decide) (by decide) h1 h2 h3 (by rw [HLE.out]; exact h4) HL.out H1.out (by rw [HLE.out]; exact HN.out) HC0.out HC.out h5
  clear hform hcap hn
  go_enter Tryz.func67, Tryz.ntmps67
  go_wp2_with (refine HAP.out _ _ _ _ _ _ _ rfl rfl rfl rfl ?_; intro v' w' ho hb)
  go_ret
  refine ⟨_, rfl, ?_, hb, by rw [← HLE.out]; exact ho⟩
  have hg := own_gsl (P := fun _ s c => c = #[Value.string s]) (xs := xs) ho HL.out HLE.out HV.out.max (fun i x c hx hc => by
    rw [List.getElem?_map, hx] at hc
    injection hc with hc
    exact hc.symm)
  obtain ⟨⟨a', cap', hv', hc', hf'⟩, hm'⟩ := hg
  refine ⟨⟨a', cap', hv', hc', ?_⟩, hm', HV.out.size⟩
  rcases hf' with h | ⟨b, off, e, h⟩
  · exact .inl h
  · refine .inr ⟨b, off, e, fun j s hs => ?_⟩
    obtain ⟨c, rfl, hcell⟩ := h j s hs
    have := hcell 0 (.string s) rfl
    rw [Nat.mul_one, Nat.add_zero] at this
    exact this
end
section
open Go.RowKit Go
/-- What CopyType has in hand: its argument, its answer, the copy. -/
structure Cpw (w : World) (ta tc : Array Value) (wx : World) : Prop where
  a : wx.heap[w.heap.size]? = some (.cells ta 45 (0, 0))
  r : wx.heap[w.heap.size + 1]? = some (.cells #[.string ⟨#[]⟩, .int .i64 0, .int .i64 0, .int .i64 0, .string ⟨#[]⟩, .bool false, .slice none 0 0, .slice none 0 0, .slice none 0 0] 45 (0, 0))
  c : wx.heap[w.heap.size + 2]? = some (.cells tc 45 (0, 0))
  b : Below w.heap.size w wx
theorem Cpw.next {w wx wy : World} {ta tc : Array Value} (h : Cpw w ta tc wx) (hb : Below wx.heap.size wx wy) : Cpw w ta tc wy := ⟨(hb.block _ (blk_lt h.a)).trans h.a, (hb.block _ (blk_lt h.r)).trans h.r, (hb.block _ (blk_lt h.c)).trans h.c, h.b.trans (hb.mono h.b.size)⟩
theorem Cpw.set {w wx : World} {ta tc : Array Value} (h : Cpw w ta tc wx) (j : Nat) (v : Value) : Cpw w ta (tc.setIfInBounds j v) (wx.setCell ⟨w.heap.size + 2, j, none⟩ v) := ⟨blk_other j v h.a (by omega), blk_other j v h.r (by omega), blk_set j v h.c, h.b.trans (((Kp.refl (fun q => q = w.heap.size + 2) wx).setCell _ _ (fun _ => rfl)).below h.b.size (fun q e => by omega))⟩
theorem Cpw.start (w : World) (ta : Array Value) : Cpw w ta ta (((w.alloc (.cells ta 45)).alloc (.cells #[.string ⟨#[]⟩, .int .i64 0, .int .i64 0, .int .i64 0, .string ⟨#[]⟩, .bool false, .slice none 0 0, .slice none 0 0, .slice none 0 0] 45)).alloc (.cells ta 45)) := by
  have z : ∀ (V : World) (o : Obj), (V.alloc o).heap.size = V.heap.size + 1 := fun V o => by simp
  have h1 := heap_alloc_new w (.cells ta 45)
  have h2 := heap_alloc_new (w.alloc (.cells ta 45)) (.cells #[.string ⟨#[]⟩, .int .i64 0, .int .i64 0, .int .i64 0, .string ⟨#[]⟩, .bool false, .slice none 0 0, .slice none 0 0, .slice none 0 0] 45)
  have h3 := heap_alloc_new ((w.alloc (.cells ta 45)).alloc (.cells #[.string ⟨#[]⟩, .int .i64 0, .int .i64 0, .int .i64 0, .string ⟨#[]⟩, .bool false, .slice none 0 0, .slice none 0 0, .slice none 0 0] 45)) (.cells ta 45)
  simp only [z] at h2 h3
  have b1 := below_alloc4 w (.cells ta 45)
  have b2 := b1.alloc b1.size (.cells #[.string ⟨#[]⟩, .int .i64 0, .int .i64 0, .int .i64 0, .string ⟨#[]⟩, .bool false, .slice none 0 0, .slice none 0 0, .slice none 0 0] 45)
  exact ⟨blk_alloc _ (blk_alloc _ h1), blk_alloc _ h2, h3, b2.alloc b2.size _⟩
set_option maxRecDepth 1000000 in
set_option maxHeartbeats 4000000 in
theorem copyT_any (w : World) (t : Tp) (c : Array Value) (hc : Tpi w t c) (hf1 : t.fs.length ≤ 1000) (hc1 : t.cs.length ≤ 1000) (hw1 : t.ws.length ≤ 1000) : Calls Tryz.prog 28 #[.agg c] w fun e w' => ∃ c', e = .returned (.agg c') ∧ Hid (Tpi w' t c' ∧ Below w.heap.size w w' ∧ ∀ (S : Nat → Prop) wy, (∀ q, S q → q < w.heap.size) → Kp S w' wy → Tpi wy t c') := by
  have HBD := hide hc.b
  obtain ⟨⟨vf, vc, vw, rfl, hF, hC, hW⟩, _⟩ := hc
  have HF0 := hide hF
  have HC0 := hide hC
  have HW0 := hide hW
  obtain ⟨⟨af, cf, rfl, _, _⟩, _⟩ := hF
  obtain ⟨⟨ac, cc, rfl, _, _⟩, _⟩ := hC
  obtain ⟨⟨aw, cw, rfl, _, _⟩, _, _⟩ := hW
  have HN : Hid (t.fs.length ≤ 1000000 ∧ t.cs.length ≤ 1000000 ∧ t.ws.length ≤ 1000000) := by show _ ∧ _; omega
  unfold tpc
  have HX := hide (Cpw.start w #[.string t.n, .int .i64 t.k, .int .i64 t.lo, .int .i64 t.hi, .string t.r.n, .bool t.r.z, .slice af t.fs.length cf, .slice ac t.cs.length cc, .slice aw t.ws.length cw])
  have HIT := hide infoTp
  have HAT : Hid (∀ w, (isAgg 45).run Tryz.prog w = .ok true w) := aggTp
  have HTC : Hid (∀ wy, Below w.heap.size w wy → ∀ wz, wz = (w.alloc (.cells #[.string t.n, .int .i64 t.k, .int .i64 t.lo, .int .i64 t.hi, .string t.r.n, .bool t.r.z, .slice af t.fs.length cf, .slice ac t.cs.length cc, .slice aw t.ws.length cw] 45)).alloc (.cells #[.string ⟨#[]⟩, .int .i64 0, .int .i64 0, .int .i64 0, .string ⟨#[]⟩, .bool false, .slice none 0 0, .slice none 0 0, .slice none 0 0] 45) → ∀ j u, (#[.string t.n, .int .i64 t.k, .int .i64 t.lo, .int .i64 t.hi, .string t.r.n, .bool t.r.z, .slice af t.fs.length cf, .slice ac t.cs.length cc, .slice aw t.ws.length cw] : Array Value)[j]? = some u → wz.cell? ⟨w.heap.size, 0 + j, none⟩ = some u) := fun _ _ wz hz j u hu => by rw [hz, Nat.zero_add]; exact blk_cell (blk_alloc _ (heap_alloc_new w _)) hu
  clear hf1 hc1 hw1
  go_enter Tryz.func28, Tryz.ntmps28
  go_upto_region 2 with (refine wpList_aggAt rfl rfl HIT.out HAT.out w.heap.size 0 #[.string t.n, .int .i64 t.k, .int .i64 t.lo, .int .i64 t.hi, .string t.r.n, .bool t.r.z, .slice af t.fs.length cf, .slice ac t.cs.length cc, .slice aw t.ws.length cw] rfl rfl (HTC.out w (Below.refl _ _) _ rfl) ?_)
  clear HTC
  rw [show w.heap.size + 1 + 1 = w.heap.size + 2 from rfl]
  generalize ((w.alloc (.cells #[.string t.n, .int .i64 t.k, .int .i64 t.lo, .int .i64 t.hi, .string t.r.n, .bool t.r.z, .slice af t.fs.length cf, .slice ac t.cs.length cc, .slice aw t.ws.length cw] 45)).alloc (.cells #[.string ⟨#[]⟩, .int .i64 0, .int .i64 0, .int .i64 0, .string ⟨#[]⟩, .bool false, .slice none 0 0, .slice none 0 0, .slice none 0 0] 45)).alloc (.cells #[.string t.n, .int .i64 t.k, .int .i64 t.lo, .int .i64 t.hi, .string t.r.n, .bool t.r.z, .slice af t.fs.length cf, .slice ac t.cs.length cc, .slice aw t.ws.length cw] 45) = w0 at *
  have q6 : w0.cell? ⟨w.heap.size, 6, none⟩ = some (.slice af t.fs.length cf) := blk_cell (j := 6) HX.out.a rfl
  go_wp2_with fail
  refine (copyF_any w0 _ t.fs (HF0.out.mv (keep_below HX.out.b)) HN.out.1).mono ?_
  rintro e w1 ⟨vF, rfl, hP⟩
  have hbF := hP.out.2.1
  have HF1 := hide hP.out.1
  have HFq : Hid (∀ q, vF.ownBlock = some q → w.heap.size + 3 ≤ q) := fun q e => by have h1 := hP.out.2.2 q e; have h2 := blk_lt HX.out.c; omega
  replace HX := hide (HX.out.next hbF)
  obtain ⟨⟨fa, fc, hvF, _, _⟩, _⟩ := hP.out.1
  subst hvF
  have o6 : w1.cell? ⟨w.heap.size + 2, 6, none⟩ = some (.slice af t.fs.length cf) := blk_cell (j := 6) HX.out.c rfl
  have z6 := blk_frozen 6 HX.out.c
  have hkF : Kp (fun q => q = w.heap.size + 2) w1 (w1.setCell ⟨w.heap.size + 2, 6, none⟩ (.slice fa t.fs.length fc)) := (Kp.refl _ w1).setCell _ _ (fun _ => rfl)
  have HX2 : Hid (Cpw w #[.string t.n, .int .i64 t.k, .int .i64 t.lo, .int .i64 t.hi, .string t.r.n, .bool t.r.z, .slice af t.fs.length cf, .slice ac t.cs.length cc, .slice aw t.ws.length cw] #[.string t.n, .int .i64 t.k, .int .i64 t.lo, .int .i64 t.hi, .string t.r.n, .bool t.r.z, .slice fa t.fs.length fc, .slice ac t.cs.length cc, .slice aw t.ws.length cw] (w1.setCell ⟨w.heap.size + 2, 6, none⟩ (.slice fa t.fs.length fc))) := HX.out.set 6 (.slice fa t.fs.length fc)
  replace HF1 := hide (FSl.kps HF1.out hkF (fun q e e2 => by have h1 := HFq.out q e; have h2 : q = w.heap.size + 2 := e2; omega))
  clear hP HX q6 hkF hbF
  go_upto_region 3 with fail
  clear o6 z6
  generalize w1.setCell ⟨w.heap.size + 2, 6, none⟩ (.slice fa t.fs.length fc) = w2 at *
  have HX := HX2
  clear HX2
  have q7 : w2.cell? ⟨w.heap.size, 7, none⟩ = some (.slice ac t.cs.length cc) := blk_cell (j := 7) HX.out.a rfl
  go_wp2_with fail
  refine (copyC_any w2 _ t.cs (HC0.out.mv (keep_below HX.out.b)) HN.out.2.1).mono ?_
  rintro e w3 ⟨vC, rfl, hP⟩
  have hbC := hP.out.2.1
  have HC1 := hide hP.out.1
  have HCq : Hid (∀ q, vC.ownBlock = some q → w.heap.size + 3 ≤ q) := fun q e => by have h1 := hP.out.2.2 q e; have h2 := blk_lt HX.out.c; omega
  replace HX := hide (HX.out.next hbC)
  obtain ⟨⟨ca, cd, hvC, _, _⟩, _⟩ := hP.out.1
  subst hvC
  have o7 : w3.cell? ⟨w.heap.size + 2, 7, none⟩ = some (.slice ac t.cs.length cc) := blk_cell (j := 7) HX.out.c rfl
  have z7 := blk_frozen 7 HX.out.c
  have hkC : Kp (fun q => q = w.heap.size + 2) w3 (w3.setCell ⟨w.heap.size + 2, 7, none⟩ (.slice ca t.cs.length cd)) := (Kp.refl _ w3).setCell _ _ (fun _ => rfl)
  have HX2 : Hid (Cpw w #[.string t.n, .int .i64 t.k, .int .i64 t.lo, .int .i64 t.hi, .string t.r.n, .bool t.r.z, .slice af t.fs.length cf, .slice ac t.cs.length cc, .slice aw t.ws.length cw] #[.string t.n, .int .i64 t.k, .int .i64 t.lo, .int .i64 t.hi, .string t.r.n, .bool t.r.z, .slice fa t.fs.length fc, .slice ca t.cs.length cd, .slice aw t.ws.length cw] (w3.setCell ⟨w.heap.size + 2, 7, none⟩ (.slice ca t.cs.length cd))) := HX.out.set 7 (.slice ca t.cs.length cd)
  replace HF1 := hide (FSl.kps (FSl.mv HF1.out (keep_below hbC)) hkC (fun q e e2 => by have h1 := HFq.out q e; have h2 : q = w.heap.size + 2 := e2; omega))
  replace HC1 := hide (CSl.kps HC1.out hkC (fun q e e2 => by have h1 := HCq.out q e; have h2 : q = w.heap.size + 2 := e2; omega))
  clear hP HX q7 hkC hbC
  go_upto_region 4 with fail
  clear o7 z7
  generalize w3.setCell ⟨w.heap.size + 2, 7, none⟩ (.slice ca t.cs.length cd) = w4 at *
  have HX := HX2
  clear HX2
  have q8 : w4.cell? ⟨w.heap.size, 8, none⟩ = some (.slice aw t.ws.length cw) := blk_cell (j := 8) HX.out.a rfl
  go_wp2_with fail
  refine (copyS_any w4 _ t.ws (HW0.out.move (keep_below HX.out.b)) HN.out.2.2).mono ?_
  rintro e w5 ⟨vS, rfl, hP⟩
  have hbS := hP.out.2.1
  have HS1 := hide hP.out.1
  have HSq : Hid (∀ q, vS.ownBlock = some q → w.heap.size + 3 ≤ q) := fun q e => by have h1 := (fun q e => (hP.out.2.2.lt q e).1) q e; have h2 := blk_lt HX.out.c; omega
  replace HX := hide (HX.out.next hbS)
  obtain ⟨⟨wa, wc, hvS, _, _⟩, _, _⟩ := hP.out.1
  subst hvS
  have o8 : w5.cell? ⟨w.heap.size + 2, 8, none⟩ = some (.slice aw t.ws.length cw) := blk_cell (j := 8) HX.out.c rfl
  have z8 := blk_frozen 8 HX.out.c
  have hkS : Kp (fun q => q = w.heap.size + 2) w5 (w5.setCell ⟨w.heap.size + 2, 8, none⟩ (.slice wa t.ws.length wc)) := (Kp.refl _ w5).setCell _ _ (fun _ => rfl)
  have HX2 : Hid (Cpw w #[.string t.n, .int .i64 t.k, .int .i64 t.lo, .int .i64 t.hi, .string t.r.n, .bool t.r.z, .slice af t.fs.length cf, .slice ac t.cs.length cc, .slice aw t.ws.length cw] #[.string t.n, .int .i64 t.k, .int .i64 t.lo, .int .i64 t.hi, .string t.r.n, .bool t.r.z, .slice fa t.fs.length fc, .slice ca t.cs.length cd, .slice wa t.ws.length wc] (w5.setCell ⟨w.heap.size + 2, 8, none⟩ (.slice wa t.ws.length wc))) := HX.out.set 8 (.slice wa t.ws.length wc)
  replace HF1 := hide (FSl.kps (FSl.mv HF1.out (keep_below hbS)) hkS (fun q e e2 => by have h1 := HFq.out q e; have h2 : q = w.heap.size + 2 := e2; omega))
  replace HC1 := hide (CSl.kps (CSl.mv HC1.out (keep_below hbS)) hkS (fun q e e2 => by have h1 := HCq.out q e; have h2 : q = w.heap.size + 2 := e2; omega))
  replace HS1 := hide (SSl.kps HS1.out hkS (fun q e e2 => by have h1 := HSq.out q e; have h2 : q = w.heap.size + 2 := e2; omega))
  clear hP HX q8 hkS hbS
  go_upto_region 5 with fail
  clear o8 z8
  generalize w5.setCell ⟨w.heap.size + 2, 8, none⟩ (.slice wa t.ws.length wc) = w6 at *
  have HX := HX2
  clear HX2
  have HR := hide HX.out.r
  have HI2 : Hid ((Tryz.prog.info? 45).map (·.size) = some (#[.string t.n, .int .i64 t.k, .int .i64 t.lo, .int .i64 t.hi, .string t.r.n, .bool t.r.z, .slice fa t.fs.length fc, .slice ca t.cs.length cd, .slice wa t.ws.length wc] : Array Value).size) := infoTp
  have HA1 : Hid ((#[.string t.n, .int .i64 t.k, .int .i64 t.lo, .int .i64 t.hi, .string t.r.n, .bool t.r.z, .slice fa t.fs.length fc, .slice ca t.cs.length cd, .slice wa t.ws.length wc] : Array Value).all (·.oneCell') = true) := by show _ = _; simp [Value.oneCell']
  have HTC : Hid (∀ j u, (#[.string t.n, .int .i64 t.k, .int .i64 t.lo, .int .i64 t.hi, .string t.r.n, .bool t.r.z, .slice fa t.fs.length fc, .slice ca t.cs.length cd, .slice wa t.ws.length wc] : Array Value)[j]? = some u → w6.cell? ⟨w.heap.size + 2, 0 + j, none⟩ = some u) := fun j u hu => by rw [Nat.zero_add]; exact blk_cell HX.out.c hu
  go_wp2_with (first
    | (refine wpList_aggAt rfl rfl HIT.out HAT.out (w.heap.size + 2) 0 #[.string t.n, .int .i64 t.k, .int .i64 t.lo, .int .i64 t.hi, .string t.r.n, .bool t.r.z, .slice fa t.fs.length fc, .slice ca t.cs.length cd, .slice wa t.ws.length wc] rfl rfl HTC.out ?_)
    | (refine wpList_storeRow rfl rfl (w.heap.size + 1) #[.string ⟨#[]⟩, .int .i64 0, .int .i64 0, .int .i64 0, .string ⟨#[]⟩, .bool false, .slice none 0 0, .slice none 0 0, .slice none 0 0] #[.string t.n, .int .i64 t.k, .int .i64 t.lo, .int .i64 t.hi, .string t.r.n, .bool t.r.z, .slice fa t.fs.length fc, .slice ca t.cs.length cd, .slice wa t.ws.length wc] 45 rfl rfl HR.out HI2.out rfl HA1.out ?_))
  have hkr := row_kp w6 (w.heap.size + 1) #[.string t.n, .int .i64 t.k, .int .i64 t.lo, .int .i64 t.hi, .string t.r.n, .bool t.r.z, .slice fa t.fs.length fc, .slice ca t.cs.length cd, .slice wa t.ws.length wc]
  have hn1 : ∀ {v : Value} {S : Nat → Prop}, (∀ q, S q → q < w.heap.size + 3) → (∀ q, v.ownBlock = some q → w.heap.size + 3 ≤ q) → ∀ q, v.ownBlock = some q → ¬ S q := fun h1 h2 q e e2 => by have := h1 q e2; have := h2 q e; omega
  have hone : ∀ q, q = w.heap.size + 1 → q < w.heap.size + 3 := fun q e => by omega
  have hkp : ∀ (S : Nat → Prop) wy, (∀ q, S q → q < w.heap.size) → Kp S (w6.setRow (w.heap.size + 1) #[.string t.n, .int .i64 t.k, .int .i64 t.lo, .int .i64 t.hi, .string t.r.n, .bool t.r.z, .slice fa t.fs.length fc, .slice ca t.cs.length cd, .slice wa t.ws.length wc]) wy → Tpi wy t #[.string t.n, .int .i64 t.k, .int .i64 t.lo, .int .i64 t.hi, .string t.r.n, .bool t.r.z, .slice fa t.fs.length fc, .slice ca t.cs.length cd, .slice wa t.ws.length wc] := fun S wy hg hk => by
    have h3 : ∀ q, S q → q < w.heap.size + 3 := fun q e => by have := hg q e; omega
    exact ⟨⟨_, _, _, rfl, FSl.kps (FSl.kps HF1.out hkr (hn1 hone HFq.out)) hk (hn1 h3 HFq.out), CSl.kps (CSl.kps HC1.out hkr (hn1 hone HCq.out)) hk (hn1 h3 HCq.out), SSl.kps (SSl.kps HS1.out hkr (hn1 hone HSq.out)) hk (hn1 h3 HSq.out)⟩, HBD.out⟩
  exact bodyPost_ret (results_cell_row rfl _ _ _ _ _ _ _ rfl (row_same HR.out) Tryz.underlying45 rfl infoTp) rfl ⟨_, rfl, hkp (fun _ => False) _ (fun _ e => e.elim) (Kp.refl _ _), HX.out.b.trans (hkr.below HX.out.b.size (fun q e => by omega)), hkp⟩
end
section
open Go.RowKit Go
/-! ### LendType -/
theorem Lgs.blk {T k : Nat} {mk : Array Value} {w : World} {base : Nat} {v : Value} {L : List (Array Value)} (h : Lgs T k mk w base v L) : ∀ q, v.ownBlock = some q → base ≤ q := fun q e => by
  obtain ⟨⟨g, cap, rfl, ho⟩, _, _⟩ := h
  exact (ho.lt q e).1
theorem Lgs.base {T k : Nat} {mk : Array Value} {w : World} {base B : Nat} {v : Value} {L : List (Array Value)} (h : Lgs T k mk w base v L) (hb : B ≤ base) : Lgs T k mk w B v L := by
  obtain ⟨⟨g, cap, e, ho⟩, h1, h2⟩ := h
  exact ⟨⟨g, cap, e, own_mono ho hb⟩, h1, h2⟩
theorem Lgs.kps {T k : Nat} {mk : Array Value} {w w' : World} {base : Nat} {v : Value} {L : List (Array Value)} {S : Nat → Prop} (h : Lgs T k mk w base v L) (hk : Kp S w w') (hq : ∀ q, v.ownBlock = some q → ¬ S q) : Lgs T k mk w' base v L := by
  obtain ⟨⟨g, cap, rfl, ho⟩, h1, h2⟩ := h
  exact ⟨⟨g, cap, rfl, hk.owns ho (fun q e => hq q e)⟩, h1, h2⟩
theorem lts_blk {w : World} {base : Nat} {v : Value} {ks : List ByteArray} (h : Lts w base v ks) : ∀ q, v.ownBlock = some q → base ≤ q := fun q e => by
  obtain ⟨⟨g, cap, rfl, ho⟩, _, _⟩ := h
  exact (ho.lt q e).1
theorem lts_base {w : World} {base B : Nat} {v : Value} {ks : List ByteArray} (h : Lts w base v ks) (hb : B ≤ base) : Lts w B v ks := by
  obtain ⟨⟨g, cap, e, ho⟩, h1, h2⟩ := h
  exact ⟨⟨g, cap, e, own_mono ho hb⟩, h1, h2⟩
theorem lts_kps {w w' : World} {base : Nat} {v : Value} {ks : List ByteArray} {S : Nat → Prop} (h : Lts w base v ks) (hk : Kp S w w') (hq : ∀ q, v.ownBlock = some q → ¬ S q) : Lts w' base v ks := by
  obtain ⟨⟨g, cap, rfl, ho⟩, h1, h2⟩ := h
  exact ⟨⟨g, cap, rfl, hk.owns ho (fun q e => hq q e)⟩, h1, h2⟩
/-- The sizes of a type's texts. -/
structure Tsz (t : Tp) : Prop where
  f : ∀ f ∈ t.fs, f.n.size ≤ 140737488351232 ∧ f.k.size ≤ 140737488351232 ∧ f.r.n.size ≤ 140737488351232
  c : ∀ x ∈ t.cs, x.k.size ≤ 140737488351232 ∧ x.n.size ≤ 140737488351232
  w : ∀ s ∈ t.ws, s.size ≤ 140737488351232
theorem tpi_sizes {w : World} {t : Tp} {c : Array Value} (h : Tpi w t c) : Tsz t := by
  obtain ⟨⟨vf, vc, vw, _, hF, hC, hW⟩, _⟩ := h
  refine ⟨fun f hf => ?_, fun x hx => ?_, hW.size⟩
  · obtain ⟨i, hi, e⟩ := List.getElem_of_mem hf
    rcases hF.form with ⟨_, _, _, _, h | ⟨b, off, _, h⟩⟩
    · rw [h] at hf; cases hf
    · obtain ⟨_, ⟨_, h1⟩, _⟩ := h i f (by rw [List.getElem?_eq_getElem hi, e])
      exact h1
  · obtain ⟨i, hi, e⟩ := List.getElem_of_mem hx
    rcases hC.form with ⟨_, _, _, _, h | ⟨b, off, _, h⟩⟩
    · rw [h] at hx; cases hx
    · obtain ⟨_, ⟨_, h1⟩, _⟩ := h i x (by rw [List.getElem?_eq_getElem hi, e])
      exact h1
/-- A type lent: its rows lie at lo and on, below hi. -/
structure Ltp (w : World) (lo hi : Nat) (t : Tp) (c : Array Value) : Prop where
  ex : ∃ vf vc vw, c = tpc t vf vc vw ∧ Lgs 77 5 mkF w lo vf (t.fs.map fdc) ∧ Lgs 102 2 mkC w lo vc (t.cs.map czc) ∧ Lts w lo vw t.ws ∧ (∀ q, vf.ownBlock = some q ∨ vc.ownBlock = some q ∨ vw.ownBlock = some q → lo ≤ q ∧ q < hi)
  tb : Tpb t
  sz : Tsz t
  ln : t.fs.length ≤ 1000 ∧ t.cs.length ≤ 1000 ∧ t.ws.length ≤ 1000
theorem lgs_hi {T k : Nat} {mk : Array Value} {w : World} {base : Nat} {v : Value} {L : List (Array Value)} (h : Lgs T k mk w base v L) : ∀ q, v.ownBlock = some q → base ≤ q ∧ q < w.heap.size := fun q e => by
  obtain ⟨⟨g, cap, rfl, ho⟩, _, _⟩ := h
  exact ho.lt q e
theorem lts_hi {w : World} {base : Nat} {v : Value} {ks : List ByteArray} (h : Lts w base v ks) : ∀ q, v.ownBlock = some q → base ≤ q ∧ q < w.heap.size := fun q e => by
  obtain ⟨⟨g, cap, rfl, ho⟩, _, _⟩ := h
  exact ho.lt q e
theorem Ltp.mk3 {w : World} {lo : Nat} {t : Tp} {vf vc vw : Value} (hb : Tpb t) (hs : Tsz t) (hl : t.fs.length ≤ 1000 ∧ t.cs.length ≤ 1000 ∧ t.ws.length ≤ 1000) (hF : Lgs 77 5 mkF w lo vf (t.fs.map fdc)) (hC : Lgs 102 2 mkC w lo vc (t.cs.map czc)) (hW : Lts w lo vw t.ws) : Ltp w lo w.heap.size t (tpc t vf vc vw) :=
  ⟨⟨vf, vc, vw, rfl, hF, hC, hW, fun q e => by
    rcases e with e | e | e
    · exact lgs_hi hF q e
    · exact lgs_hi hC q e
    · exact lts_hi hW q e⟩, hb, hs, hl⟩
theorem Ltp.kp {w w' : World} {lo hi : Nat} {t : Tp} {c : Array Value} {S : Nat → Prop} (h : Ltp w lo hi t c) (hk : Kp S w w') (hs : ∀ q, lo ≤ q → q < hi → ¬ S q) : Ltp w' lo hi t c := by
  obtain ⟨⟨vf, vc, vw, e, h1, h2, h3, h4⟩, h5, h6, h7⟩ := h
  exact ⟨⟨vf, vc, vw, e, h1.kps hk (fun q e => hs q (h4 q (.inl e)).1 (h4 q (.inl e)).2), h2.kps hk (fun q e => hs q (h4 q (.inr (.inl e))).1 (h4 q (.inr (.inl e))).2), lts_kps h3 hk (fun q e => hs q (h4 q (.inr (.inr e))).1 (h4 q (.inr (.inr e))).2), h4⟩, h5, h6, h7⟩
theorem Ltp.next {w w' : World} {lo hi : Nat} {t : Tp} {c : Array Value} (h : Ltp w lo hi t c) (hb : Below w.heap.size w w') : Ltp w' lo hi t c := h.kp (Kp.of_below (S := fun _ => False) hb) (fun _ _ _ e => e)
theorem lgs_gsl {α : Type} {n T : Nat} {P : World → α → Array Value → Prop} {f : α → Array Value} {mk : Array Value} {w : World} {base : Nat} {v : Value} {xs : List α} (h : Lgs T n mk w base v (xs.map f)) (hP : ∀ x ∈ xs, P w x (f x)) (hm : xs.length ≤ 140737488351232) : GSl n P w v xs := by
  have hall := h.all
  obtain ⟨⟨g, cap, rfl, ho⟩, hs, hk⟩ := h
  obtain ⟨h1, _, h3⟩ := Lgs.at ho hall
  rw [List.length_map] at h3 ⊢
  refine ⟨⟨_, cap, rfl, ⟨by omega, fun e => by cases e⟩, .inr ⟨g, 0, rfl, fun i x hx => ⟨f x, hP x (List.mem_of_getElem? hx), fun j u hu => ?_⟩⟩⟩, hm⟩
  rw [Nat.zero_add]
  exact h1 i (f x) (by rw [List.getElem?_map, hx]; rfl) j u hu
theorem lts_ssl {w : World} {base : Nat} {v : Value} {ks : List ByteArray} (h : Lts w base v ks) : SSl w v ks := by
  obtain ⟨⟨g, cap, rfl, ho⟩, hl, hs⟩ := h
  obtain ⟨h1, _, h3⟩ := Lts.cell ho
  refine ⟨⟨_, cap, rfl, ⟨by omega, fun e => by cases e⟩, .inr ⟨g, 0, rfl, fun j s hj => ?_⟩⟩, by omega, hs⟩
  rw [Nat.zero_add]
  exact h1 j s hj
theorem Ltp.tpi {w : World} {lo hi : Nat} {t : Tp} {c : Array Value} (h : Ltp w lo hi t c) : Tpi w t c := by
  obtain ⟨⟨vf, vc, vw, e, h1, h2, h3, h4⟩, h5, h6, h7⟩ := h
  exact ⟨⟨vf, vc, vw, e, lgs_gsl h1 (fun x hx => ⟨rfl, h6.f x hx⟩) (by omega), lgs_gsl h2 (fun x hx => ⟨rfl, h6.c x hx⟩) (by omega), lts_ssl h3⟩, h5⟩
set_option maxRecDepth 1000000 in
set_option maxHeartbeats 4000000 in
theorem lendT_any (w : World) (t : Tp) (c : Array Value) (hc : Tpi w t c) (hf1 : t.fs.length ≤ 1000) (hc1 : t.cs.length ≤ 1000) (hw1 : t.ws.length ≤ 1000) : Calls Tryz.prog 17 #[.agg c] w fun e w' => ∃ c', e = .returned (.agg c') ∧ Hid (Ltp w' w.heap.size w'.heap.size t c' ∧ Below w.heap.size w w') := by
  have HBD := hide hc.b
  have HTS := hide (tpi_sizes hc)
  obtain ⟨⟨vf, vc, vw, rfl, hF, hC, hW⟩, _⟩ := hc
  have HF0 := hide hF
  have HC0 := hide hC
  have HW0 := hide hW
  obtain ⟨⟨af, cf, rfl, _, _⟩, _⟩ := hF
  obtain ⟨⟨ac, cc, rfl, _, _⟩, _⟩ := hC
  obtain ⟨⟨aw, cw, rfl, _, _⟩, _, _⟩ := hW
  have HN : Hid (t.fs.length ≤ 1000 ∧ t.cs.length ≤ 1000 ∧ t.ws.length ≤ 1000) := ⟨hf1, hc1, hw1⟩
  unfold tpc
  have HX := hide (Cpw.start w #[.string t.n, .int .i64 t.k, .int .i64 t.lo, .int .i64 t.hi, .string t.r.n, .bool t.r.z, .slice af t.fs.length cf, .slice ac t.cs.length cc, .slice aw t.ws.length cw])
  have HIT := hide infoTp
  have HAT : Hid (∀ w, (isAgg 45).run Tryz.prog w = .ok true w) := aggTp
  have HTC : Hid (∀ wy, Below w.heap.size w wy → ∀ wz, wz = (w.alloc (.cells #[.string t.n, .int .i64 t.k, .int .i64 t.lo, .int .i64 t.hi, .string t.r.n, .bool t.r.z, .slice af t.fs.length cf, .slice ac t.cs.length cc, .slice aw t.ws.length cw] 45)).alloc (.cells #[.string ⟨#[]⟩, .int .i64 0, .int .i64 0, .int .i64 0, .string ⟨#[]⟩, .bool false, .slice none 0 0, .slice none 0 0, .slice none 0 0] 45) → ∀ j u, (#[.string t.n, .int .i64 t.k, .int .i64 t.lo, .int .i64 t.hi, .string t.r.n, .bool t.r.z, .slice af t.fs.length cf, .slice ac t.cs.length cc, .slice aw t.ws.length cw] : Array Value)[j]? = some u → wz.cell? ⟨w.heap.size, 0 + j, none⟩ = some u) := fun _ _ wz hz j u hu => by rw [hz, Nat.zero_add]; exact blk_cell (blk_alloc _ (heap_alloc_new w _)) hu
  clear hf1 hc1 hw1
  go_enter Tryz.func17, Tryz.ntmps17
  go_upto_region 2 with (refine wpList_aggAt rfl rfl HIT.out HAT.out w.heap.size 0 #[.string t.n, .int .i64 t.k, .int .i64 t.lo, .int .i64 t.hi, .string t.r.n, .bool t.r.z, .slice af t.fs.length cf, .slice ac t.cs.length cc, .slice aw t.ws.length cw] rfl rfl (HTC.out w (Below.refl _ _) _ rfl) ?_)
  clear HTC
  rw [show w.heap.size + 1 + 1 = w.heap.size + 2 from rfl]
  generalize ((w.alloc (.cells #[.string t.n, .int .i64 t.k, .int .i64 t.lo, .int .i64 t.hi, .string t.r.n, .bool t.r.z, .slice af t.fs.length cf, .slice ac t.cs.length cc, .slice aw t.ws.length cw] 45)).alloc (.cells #[.string ⟨#[]⟩, .int .i64 0, .int .i64 0, .int .i64 0, .string ⟨#[]⟩, .bool false, .slice none 0 0, .slice none 0 0, .slice none 0 0] 45)).alloc (.cells #[.string t.n, .int .i64 t.k, .int .i64 t.lo, .int .i64 t.hi, .string t.r.n, .bool t.r.z, .slice af t.fs.length cf, .slice ac t.cs.length cc, .slice aw t.ws.length cw] 45) = w0 at *
  have q6 : w0.cell? ⟨w.heap.size, 6, none⟩ = some (.slice af t.fs.length cf) := blk_cell (j := 6) HX.out.a rfl
  go_wp2_with fail
  refine (lendF_any w0 _ t.fs (HF0.out.mv (keep_below HX.out.b)) HN.out.1).mono ?_
  rintro e w1 ⟨vF, rfl, hLF, hbF⟩
  have hqF : ∀ q, vF.ownBlock = some q → w0.heap.size ≤ q := hLF.blk
  have HFq : Hid (∀ q, vF.ownBlock = some q → w.heap.size + 3 ≤ q) := fun q e => by have h1 := hqF q e; have h2 := blk_lt HX.out.c; omega
  have HF1 := hide (hLF.base (show w.heap.size ≤ w0.heap.size from HX.out.b.size))
  replace HX := hide (HX.out.next hbF)
  obtain ⟨⟨gF, fc, hvF, _⟩, _, _⟩ := HF1.out
  rw [List.length_map] at hvF
  subst hvF
  clear hqF hLF
  have o6 : w1.cell? ⟨w.heap.size + 2, 6, none⟩ = some (.slice af t.fs.length cf) := blk_cell (j := 6) HX.out.c rfl
  have z6 := blk_frozen 6 HX.out.c
  have hkF : Kp (fun q => q = w.heap.size + 2) w1 (w1.setCell ⟨w.heap.size + 2, 6, none⟩ (.slice (some ⟨gF, 0, none⟩) t.fs.length fc)) := (Kp.refl _ w1).setCell _ _ (fun _ => rfl)
  have HX2 : Hid (Cpw w #[.string t.n, .int .i64 t.k, .int .i64 t.lo, .int .i64 t.hi, .string t.r.n, .bool t.r.z, .slice af t.fs.length cf, .slice ac t.cs.length cc, .slice aw t.ws.length cw] #[.string t.n, .int .i64 t.k, .int .i64 t.lo, .int .i64 t.hi, .string t.r.n, .bool t.r.z, .slice (some ⟨gF, 0, none⟩) t.fs.length fc, .slice ac t.cs.length cc, .slice aw t.ws.length cw] (w1.setCell ⟨w.heap.size + 2, 6, none⟩ (.slice (some ⟨gF, 0, none⟩) t.fs.length fc))) := HX.out.set 6 (.slice (some ⟨gF, 0, none⟩) t.fs.length fc)
  replace HF1 := hide (Lgs.kps HF1.out hkF (fun q e e2 => by have h1 := HFq.out q e; have h2 : q = w.heap.size + 2 := e2; omega))
  clear HX q6 hkF hbF
  go_upto_region 3 with fail
  clear o6 z6
  generalize w1.setCell ⟨w.heap.size + 2, 6, none⟩ (.slice (some ⟨gF, 0, none⟩) t.fs.length fc) = w2 at *
  have HX := HX2
  clear HX2
  have q7 : w2.cell? ⟨w.heap.size, 7, none⟩ = some (.slice ac t.cs.length cc) := blk_cell (j := 7) HX.out.a rfl
  go_wp2_with fail
  refine (lendC_any w2 _ t.cs (HC0.out.mv (keep_below HX.out.b)) HN.out.2.1).mono ?_
  rintro e w3 ⟨vC, rfl, hLC, hbC⟩
  have hqC : ∀ q, vC.ownBlock = some q → w2.heap.size ≤ q := hLC.blk
  have HCq : Hid (∀ q, vC.ownBlock = some q → w.heap.size + 3 ≤ q) := fun q e => by have h1 := hqC q e; have h2 := blk_lt HX.out.c; omega
  have HC1 := hide (hLC.base (show w.heap.size ≤ w2.heap.size from HX.out.b.size))
  replace HX := hide (HX.out.next hbC)
  obtain ⟨⟨gC, cd, hvC, _⟩, _, _⟩ := HC1.out
  rw [List.length_map] at hvC
  subst hvC
  clear hqC hLC
  have o7 : w3.cell? ⟨w.heap.size + 2, 7, none⟩ = some (.slice ac t.cs.length cc) := blk_cell (j := 7) HX.out.c rfl
  have z7 := blk_frozen 7 HX.out.c
  have hkC : Kp (fun q => q = w.heap.size + 2) w3 (w3.setCell ⟨w.heap.size + 2, 7, none⟩ (.slice (some ⟨gC, 0, none⟩) t.cs.length cd)) := (Kp.refl _ w3).setCell _ _ (fun _ => rfl)
  have HX2 : Hid (Cpw w #[.string t.n, .int .i64 t.k, .int .i64 t.lo, .int .i64 t.hi, .string t.r.n, .bool t.r.z, .slice af t.fs.length cf, .slice ac t.cs.length cc, .slice aw t.ws.length cw] #[.string t.n, .int .i64 t.k, .int .i64 t.lo, .int .i64 t.hi, .string t.r.n, .bool t.r.z, .slice (some ⟨gF, 0, none⟩) t.fs.length fc, .slice (some ⟨gC, 0, none⟩) t.cs.length cd, .slice aw t.ws.length cw] (w3.setCell ⟨w.heap.size + 2, 7, none⟩ (.slice (some ⟨gC, 0, none⟩) t.cs.length cd))) := HX.out.set 7 (.slice (some ⟨gC, 0, none⟩) t.cs.length cd)
  replace HF1 := hide (Lgs.kps (HF1.out.next hbC) hkC (fun q e e2 => by have h1 := HFq.out q e; have h2 : q = w.heap.size + 2 := e2; omega))
  replace HC1 := hide (Lgs.kps HC1.out hkC (fun q e e2 => by have h1 := HCq.out q e; have h2 : q = w.heap.size + 2 := e2; omega))
  clear HX q7 hkC hbC
  go_upto_region 4 with fail
  clear o7 z7
  generalize w3.setCell ⟨w.heap.size + 2, 7, none⟩ (.slice (some ⟨gC, 0, none⟩) t.cs.length cd) = w4 at *
  have HX := HX2
  clear HX2
  have q8 : w4.cell? ⟨w.heap.size, 8, none⟩ = some (.slice aw t.ws.length cw) := blk_cell (j := 8) HX.out.a rfl
  go_wp2_with fail
  refine (lendTexts_any w4 _ t.ws (HW0.out.move (keep_below HX.out.b)) (by have := HN.out.2.2; omega)).mono ?_
  rintro e w5 ⟨vS, rfl, hLS, hbS⟩
  have hqS : ∀ q, vS.ownBlock = some q → w4.heap.size ≤ q := lts_blk hLS
  have HSq : Hid (∀ q, vS.ownBlock = some q → w.heap.size + 3 ≤ q) := fun q e => by have h1 := hqS q e; have h2 := blk_lt HX.out.c; omega
  have HS1 := hide (lts_base hLS (show w.heap.size ≤ w4.heap.size from HX.out.b.size))
  replace HX := hide (HX.out.next hbS)
  obtain ⟨⟨gS, wc, hvS, _⟩, _, _⟩ := HS1.out
  subst hvS
  clear hqS hLS
  have o8 : w5.cell? ⟨w.heap.size + 2, 8, none⟩ = some (.slice aw t.ws.length cw) := blk_cell (j := 8) HX.out.c rfl
  have z8 := blk_frozen 8 HX.out.c
  have hkS : Kp (fun q => q = w.heap.size + 2) w5 (w5.setCell ⟨w.heap.size + 2, 8, none⟩ (.slice (some ⟨gS, 0, none⟩) t.ws.length wc)) := (Kp.refl _ w5).setCell _ _ (fun _ => rfl)
  have HX2 : Hid (Cpw w #[.string t.n, .int .i64 t.k, .int .i64 t.lo, .int .i64 t.hi, .string t.r.n, .bool t.r.z, .slice af t.fs.length cf, .slice ac t.cs.length cc, .slice aw t.ws.length cw] #[.string t.n, .int .i64 t.k, .int .i64 t.lo, .int .i64 t.hi, .string t.r.n, .bool t.r.z, .slice (some ⟨gF, 0, none⟩) t.fs.length fc, .slice (some ⟨gC, 0, none⟩) t.cs.length cd, .slice (some ⟨gS, 0, none⟩) t.ws.length wc] (w5.setCell ⟨w.heap.size + 2, 8, none⟩ (.slice (some ⟨gS, 0, none⟩) t.ws.length wc))) := HX.out.set 8 (.slice (some ⟨gS, 0, none⟩) t.ws.length wc)
  replace HF1 := hide (Lgs.kps (HF1.out.next hbS) hkS (fun q e e2 => by have h1 := HFq.out q e; have h2 : q = w.heap.size + 2 := e2; omega))
  replace HC1 := hide (Lgs.kps (HC1.out.next hbS) hkS (fun q e e2 => by have h1 := HCq.out q e; have h2 : q = w.heap.size + 2 := e2; omega))
  replace HS1 := hide (lts_kps HS1.out hkS (fun q e e2 => by have h1 := HSq.out q e; have h2 : q = w.heap.size + 2 := e2; omega))
  clear HX q8 hkS hbS
  go_upto_region 5 with fail
  clear o8 z8
  generalize w5.setCell ⟨w.heap.size + 2, 8, none⟩ (.slice (some ⟨gS, 0, none⟩) t.ws.length wc) = w6 at *
  have HX := HX2
  clear HX2
  have HR := hide HX.out.r
  have HI2 : Hid ((Tryz.prog.info? 45).map (·.size) = some (#[.string t.n, .int .i64 t.k, .int .i64 t.lo, .int .i64 t.hi, .string t.r.n, .bool t.r.z, .slice (some ⟨gF, 0, none⟩) t.fs.length fc, .slice (some ⟨gC, 0, none⟩) t.cs.length cd, .slice (some ⟨gS, 0, none⟩) t.ws.length wc] : Array Value).size) := infoTp
  have HA1 : Hid ((#[.string t.n, .int .i64 t.k, .int .i64 t.lo, .int .i64 t.hi, .string t.r.n, .bool t.r.z, .slice (some ⟨gF, 0, none⟩) t.fs.length fc, .slice (some ⟨gC, 0, none⟩) t.cs.length cd, .slice (some ⟨gS, 0, none⟩) t.ws.length wc] : Array Value).all (·.oneCell') = true) := by show _ = _; simp [Value.oneCell']
  have HTC : Hid (∀ j u, (#[.string t.n, .int .i64 t.k, .int .i64 t.lo, .int .i64 t.hi, .string t.r.n, .bool t.r.z, .slice (some ⟨gF, 0, none⟩) t.fs.length fc, .slice (some ⟨gC, 0, none⟩) t.cs.length cd, .slice (some ⟨gS, 0, none⟩) t.ws.length wc] : Array Value)[j]? = some u → w6.cell? ⟨w.heap.size + 2, 0 + j, none⟩ = some u) := fun j u hu => by rw [Nat.zero_add]; exact blk_cell HX.out.c hu
  go_wp2_with (first
    | (refine wpList_aggAt rfl rfl HIT.out HAT.out (w.heap.size + 2) 0 #[.string t.n, .int .i64 t.k, .int .i64 t.lo, .int .i64 t.hi, .string t.r.n, .bool t.r.z, .slice (some ⟨gF, 0, none⟩) t.fs.length fc, .slice (some ⟨gC, 0, none⟩) t.cs.length cd, .slice (some ⟨gS, 0, none⟩) t.ws.length wc] rfl rfl HTC.out ?_)
    | (refine wpList_storeRow rfl rfl (w.heap.size + 1) #[.string ⟨#[]⟩, .int .i64 0, .int .i64 0, .int .i64 0, .string ⟨#[]⟩, .bool false, .slice none 0 0, .slice none 0 0, .slice none 0 0] #[.string t.n, .int .i64 t.k, .int .i64 t.lo, .int .i64 t.hi, .string t.r.n, .bool t.r.z, .slice (some ⟨gF, 0, none⟩) t.fs.length fc, .slice (some ⟨gC, 0, none⟩) t.cs.length cd, .slice (some ⟨gS, 0, none⟩) t.ws.length wc] 45 rfl rfl HR.out HI2.out rfl HA1.out ?_))
  have hkr := row_kp w6 (w.heap.size + 1) #[.string t.n, .int .i64 t.k, .int .i64 t.lo, .int .i64 t.hi, .string t.r.n, .bool t.r.z, .slice (some ⟨gF, 0, none⟩) t.fs.length fc, .slice (some ⟨gC, 0, none⟩) t.cs.length cd, .slice (some ⟨gS, 0, none⟩) t.ws.length wc]
  have hn1 : ∀ {v : Value} {S : Nat → Prop}, (∀ q, S q → q < w.heap.size + 3) → (∀ q, v.ownBlock = some q → w.heap.size + 3 ≤ q) → ∀ q, v.ownBlock = some q → ¬ S q := fun h1 h2 q e e2 => by have := h1 q e2; have := h2 q e; omega
  have hone : ∀ q, q = w.heap.size + 1 → q < w.heap.size + 3 := fun q e => by omega
  have hF2 := Lgs.kps HF1.out hkr (hn1 hone HFq.out)
  have hC2 := Lgs.kps HC1.out hkr (hn1 hone HCq.out)
  have hS2 := lts_kps HS1.out hkr (hn1 hone HSq.out)
  have hLT := Ltp.mk3 HBD.out HTS.out HN.out hF2 hC2 hS2
  exact bodyPost_ret (results_cell_row rfl _ _ _ _ _ _ _ rfl (row_same HR.out) Tryz.underlying45 rfl infoTp) rfl ⟨_, rfl, hLT, HX.out.b.trans (hkr.below HX.out.b.size (fun q e => by omega))⟩
end
section
open Go.RowKit Go
set_option maxRecDepth 1000000 in
set_option maxHeartbeats 4000000 in
theorem copyTs_any (w : World) (v : Value) (l : List Tp) (hv : TSl w v l) (hS : Shrt l) (hl : l.length ≤ 100000) : Calls Tryz.prog 13 #[v] w fun e w' => ∃ v', e = .returned v' ∧ Hid (TSl w' v' l ∧ Below w.heap.size w w') := by
  have HSH := hide hS
  have hmax := hv.max
  obtain ⟨⟨a, cap, rfl, _, hform⟩, _⟩ := hv
  have HF := hide hform
  clear hform hS
  have HX := hide (Opw.start w)
  go_enter Tryz.func13, Tryz.ntmps13
  go_wp2_with fail
  go_loopw [3, 4] (fun vo vi wx => ∃ (i : Nat) (a0 : Option Addr) (n0 c0 : Nat) (L : List (Array Value)), i ≤ l.length ∧ vo = .slice a0 n0 c0 ∧ vi = .int .i64 (i : Nat) ∧ Hid (Opw w (.slice a0 n0 c0) L (l.take i) wx)) (fun _ vi _ => l.length - (intOf vi).toNat)
  case atStart => exact ⟨0, none, 0, 0, [], by omega, rfl, rfl, HX⟩
  case round =>
    obtain ⟨i, a0, n0, c0, L, hi, rfl, rfl, HXi⟩ := hrel
    clear HX
    by_cases hlt : i < l.length
    · have g1 : (i : Int) < (l.length : Int) := by omega
      obtain ⟨t, ht⟩ : ∃ t, l[i]? = some t := ⟨l[i], List.getElem?_eq_getElem hlt⟩
      obtain ⟨b, off, rfl, hcc⟩ := HF.out.resolve_left (fun h => by rw [h] at hlt; simp at hlt)
      obtain ⟨c, hc, hcell⟩ := hcc i t ht
      have HC := hide hc
      obtain ⟨⟨vf, vc, vw, rfl, ⟨⟨af, cf, rfl, -, -⟩, -⟩, ⟨⟨ac, cc, rfl, -, -⟩, -⟩, ⟨⟨aw, cw, rfl, -, -⟩, -, -⟩⟩, -⟩ := hc
      unfold tpc at hcell HC
      have HCL : Hid (∀ j u, (#[.string t.n, .int .i64 t.k, .int .i64 t.lo, .int .i64 t.hi, .string t.r.n, .bool t.r.z, .slice af t.fs.length cf, .slice ac t.cs.length cc, .slice aw t.ws.length cw] : Array Value)[j]? = some u → wr.cell? ⟨b, off + i * 9 + j, none⟩ = some u) := fun j u hj => keep_below HXi.out.b _ _ (hcell j u hj)
      have HC2 : Hid (Tpi wr t #[.string t.n, .int .i64 t.k, .int .i64 t.lo, .int .i64 t.hi, .string t.r.n, .bool t.r.z, .slice af t.fs.length cf, .slice ac t.cs.length cc, .slice aw t.ws.length cw]) := HC.out.move (keep_below HXi.out.b)
      have HSI := hide (HSH.out t (List.mem_of_getElem? ht))
      have HTK := hide (takeP l i t ht)
      have HLL : Hid (L.length ≤ 1000000) := by
        have h1 := HXi.out.n
        rw [List.length_take] at h1
        show _ ≤ _
        omega
      have HIT := hide infoTp
      have HAT : Hid (∀ w, (isAgg 45).run Tryz.prog w = .ok true w) := aggTp
      clear hcc hcell ht HF HC
      go_wp2_with (refine wpList_aggAt rfl rfl HIT.out HAT.out b (off + i * 9) #[.string t.n, .int .i64 t.k, .int .i64 t.lo, .int .i64 t.hi, .string t.r.n, .bool t.r.z, .slice af t.fs.length cf, .slice ac t.cs.length cc, .slice aw t.ws.length cw] rfl rfl HCL.out ?_)
      refine (copyT_any wr t _ HC2.out HSI.out.1 HSI.out.2.1 HSI.out.2.2).mono ?_
      rintro e w3 ⟨c', rfl, hP⟩
      have hb3 := hP.out.2.1
      have hb4 := below_alloc4 w3 (.cells c' 45)
      have HX4 := hide ((HXi.out.next hb3).next hb4)
      have HK4 : Hid (Tpk (w3.alloc (.cells c' 45)) (fun q => q < w.heap.size ∨ (Value.slice a0 n0 c0).ownBlock = some q) t c') := fun wy hk => hP.out.2.2 _ wy (fun q e => by
        rcases e with e | e
        · exact Nat.lt_of_lt_of_le e HXi.out.b.size
        · exact (HXi.out.o.lt q e).2) ((Kp.mono (Kp.of_below (S := fun _ => False) hb4) (fun _ _ e => e.elim)).trans hk (fun _ _ e => e))
      have HZ9 := hide hP.out.1.size9
      have H1C : Hid (∀ u ∈ c'.toList, u.oneCell' = true) := fun u hu => by
        have h := hP.out.1.all1
        rw [Array.all_eq_true_iff_forall_mem] at h
        exact h u (by simpa using hu)
      have HAL : Hid (w.heap.size ≤ (w3.alloc (.cells c' 45)).heap.size) := HX4.out.b.size
      have HAP : Hid (∀ (ops : Array Oper) (rest : List Oper) (o : Oper) (ac : Act) (Q : Exit → Act → World → Prop) (s y : Operand), o.guard = none → o.op = .call { callee := .builtin .append, args := #[s, y], argTypes := #[24, 24] } → ac.eval s = .slice a0 n0 c0 → ac.eval y = .slice (some ⟨w3.heap.size, 0, none⟩) 1 1 → (∀ v' w', Opw w v' (L ++ [c']) (l.take (i + 1)) w' → wpList Tryz.prog ops Q rest (ac.put o.dst v') w') → wpList Tryz.prog ops Q (o :: rest) ac (w3.alloc (.cells c' 45))) := fun ops rest o ac Q s y h1 h2 h3 h4 h5 =>
        append_g infoTp3 Tryz.underlying24 rfl (by decide) (by decide) h1 h2 h3 HX4.out.o h4 (heap_alloc_new w3 _) HZ9.out H1C.out HLL.out HAL.out (fun v' w' h6 h7 h8 => h5 v' w' (by rw [HTK.out]; exact HX4.out.app h7 h6 h8 HZ9.out HK4.out))
      clear hP hb3 hb4 HCL HC2 HXi
      go_wp2_with (first
        | (refine row1 infoTp3 Tryz.underlying24 (by decide) (by decide) rfl rfl rfl (c := c') rfl HZ9.out ?_)
        | (refine HAP.out _ _ _ _ _ _ _ rfl rfl rfl rfl ?_; intro v' w' hr'))
      obtain ⟨a2, c2, hv0, _⟩ := own_formG hr'.o
      subst hv0
      have HR' := hide hr'
      clear hr'
      go_wp2_with fail
      go_roundw
      case rel => exact ⟨i + 1, _, _, _, _, by omega, rfl, by go_num, HR'⟩
      case measure => simp [intOf]; omega
    · have g1 : ¬ (i : Int) < (l.length : Int) := by omega
      have HX2 : Hid (Opw w (.slice a0 n0 c0) L l wr) := by have h := HXi.out; rw [List.take_of_length_le (by omega)] at h; exact h
      clear HXi HF
      go_wp2_with fail
      go_ret
      exact ⟨_, rfl, HX2.out.tsl (by omega), HX2.out.b⟩
end
section
open Go.RowKit Go
/-! ### LendTypes -/
def mkT : Array Value := #[.string ⟨#[]⟩, .int .i64 777, .int .i64 0, .int .i64 0, .string ⟨#[]⟩, .bool false, .slice none 0 0, .slice none 0 0, .slice none 0 0]
theorem mkT_one : ∀ u ∈ mkT.toList, u.oneCell' = true := fun u hu => by
  simp only [mkT, List.mem_cons, List.not_mem_nil, or_false] at hu
  rcases hu with rfl | rfl | rfl | rfl | rfl | rfl | rfl | rfl | rfl <;> rfl
/-- What LendTypes has in hand: the types that it has lent, and marks behind them. -/
structure Lty (w : World) (v : Value) (L M : List (Array Value)) (ts : List Tp) (A E : Nat → Nat) (wx : World) : Prop where
  o : wx.ownsRow w.heap.size 45 9 v (L ++ M).length (gfl (L ++ M))
  n : L.length = ts.length
  z : ∀ c ∈ L, c.size = 9
  a : ∀ i, i < ts.length → (w.heap.size ≤ A i ∧ A i ≤ E i) ∧ E i ≤ wx.heap.size
  d : ∀ i j, i < j → j < ts.length → E i ≤ A j
  g : ∀ i q, i < ts.length → v.ownBlock = some q → q < A i ∨ E i ≤ q
  k : ∀ (i : Nat) (t : Tp) (c : Array Value), ts[i]? = some t → L[i]? = some c → Ltp wx (A i) (E i) t c
  b : Below w.heap.size w wx
theorem Lty.next {w : World} {v : Value} {L M : List (Array Value)} {ts : List Tp} {A E : Nat → Nat} {wx wy : World} (h : Lty w v L M ts A E wx) (hb : Below wx.heap.size wx wy) : Lty w v L M ts A E wy :=
  ⟨(Kp.of_below (S := fun _ => False) hb).owns h.o (fun _ _ e => e), h.n, h.z, fun i hi => ⟨(h.a i hi).1, by have := (h.a i hi).2; have := hb.size; omega⟩, h.d, h.g, fun i t c h1 h2 => (h.k i t c h1 h2).next hb, h.b.trans (hb.mono h.b.size)⟩
theorem Lty.app {w : World} {v v' : Value} {L : List (Array Value)} {ts : List Tp} {A E : Nat → Nat} {wx wy : World} {t : Tp} {c : Array Value} {lo hi : Nat} (h : Lty w v L [] ts A E wx) (hg : wx.grownBy wy v.ownBlock) (ho : wy.ownsRow w.heap.size 45 9 v' ((L ++ []).length + 1) (gfl ((L ++ []) ++ [c]))) (hl : v'.ownBlock = v.ownBlock ∨ v'.ownBlock = some wx.heap.size) (hc : c.size = 9) (hk : Ltp wx lo hi t c) (hw : w.heap.size ≤ lo) (hlh : lo ≤ hi ∧ hi ≤ wx.heap.size) (hlo : ∀ i, i < ts.length → E i ≤ lo) (hv : ∀ q, v.ownBlock = some q → q < lo) :
    Lty w v' (L ++ [c]) [] (ts ++ [t]) (fun i => if i = ts.length then lo else A i) (fun i => if i = ts.length then hi else E i) wy := by
  have hkp := kp_grown hg
  have hsz : wx.heap.size ≤ wy.heap.size := hkp.size
  have hgv : ∀ i q, i < ts.length → v'.ownBlock = some q → q < A i ∨ E i ≤ q := fun i q hi e => by
    rcases hl with e2 | e2
    · exact h.g i q hi (e2 ▸ e)
    · rw [e2] at e
      have := Option.some.inj e
      have := (h.a i hi).2
      omega
  have hmv : ∀ (lo hi : Nat) (t : Tp) (c : Array Value), Ltp wx lo hi t c → (∀ q, v.ownBlock = some q → q < lo ∨ hi ≤ q) → Ltp wy lo hi t c := fun lo hi t c h1 h2 => h1.kp hkp (fun q e1 e2 e => by have := h2 q e; omega)
  refine ⟨by rw [List.append_nil, List.length_append]; rw [List.append_nil] at ho; exact ho, by rw [List.length_append, List.length_append, h.n]; rfl, fun d hd => ?_, fun i hi => ?_, fun i j hij hj => ?_, fun i q hi e => ?_, fun i u d h1 h2 => ?_, ?_⟩
  · rcases List.mem_append.1 hd with hd | hd
    · exact h.z d hd
    · rw [List.mem_singleton.1 hd]; exact hc
  · by_cases e : i = ts.length
    · rw [if_pos e, if_pos e]; omega
    · rw [if_neg e, if_neg e]
      have := h.a i (by rw [List.length_append] at hi; simp at hi; omega)
      omega
  · rw [List.length_append] at hj
    simp at hj
    rw [if_neg (by omega)]
    by_cases e : j = ts.length
    · rw [if_pos e]; exact hlo i (by omega)
    · rw [if_neg e]; exact h.d i j hij (by omega)
  · by_cases e2 : i = ts.length
    · rw [if_pos e2, if_pos e2]
      rcases hl with e3 | e3
      · exact .inl (hv q (e3 ▸ e))
      · rw [e3] at e
        have := Option.some.inj e
        exact .inr (by omega)
    · rw [if_neg e2, if_neg e2]
      exact hgv i q (by rw [List.length_append] at hi; simp at hi; omega) e
  · by_cases hi : i < ts.length
    · rw [List.getElem?_append_left hi] at h1
      rw [List.getElem?_append_left (by rw [h.n]; exact hi)] at h2
      rw [if_neg (by omega), if_neg (by omega)]
      exact hmv _ _ u d (h.k i u d h1 h2) (fun q e => h.g i q hi e)
    · have e : i = ts.length := by
        have := (List.getElem?_eq_some_iff.1 h1).1
        rw [List.length_append, List.length_singleton] at this
        omega
      subst e
      rw [List.getElem?_append_right (Nat.le_refl _), Nat.sub_self] at h1
      rw [← h.n, List.getElem?_append_right (Nat.le_refl _), Nat.sub_self] at h2
      have e1 : t = u := by simpa using h1
      have e2 : c = d := by simpa using h2
      subst e1
      subst e2
      rw [if_pos rfl, if_pos rfl]
      exact hmv lo _ t c hk (fun q e => .inl (hv q e))
  · exact h.b.trans (hkp.below h.b.size (fun q e => (h.o.lt q e).1))
/-- A mark more. -/
theorem Lty.mark {w : World} {v v' : Value} {L M : List (Array Value)} {ts : List Tp} {A E : Nat → Nat} {wx wy : World} {c : Array Value} (h : Lty w v L M ts A E wx) (hg : wx.grownBy wy v.ownBlock) (ho : wy.ownsRow w.heap.size 45 9 v' ((L ++ M).length + 1) (gfl ((L ++ M) ++ [c]))) (hl : v'.ownBlock = v.ownBlock ∨ v'.ownBlock = some wx.heap.size) : Lty w v' L (M ++ [c]) ts A E wy := by
  have hkp := kp_grown hg
  have hsz : wx.heap.size ≤ wy.heap.size := hkp.size
  refine ⟨by rw [← List.append_assoc, List.length_append]; exact ho, h.n, h.z, fun i hi => ⟨(h.a i hi).1, by have := (h.a i hi).2; omega⟩, h.d, fun i q hi e => ?_, fun i t c h1 h2 => (h.k i t c h1 h2).kp hkp (fun q e1 e2 e => by have := h.g i q (List.getElem?_eq_some_iff.1 h1).1 e; omega), h.b.trans (hkp.below h.b.size (fun q e => (h.o.lt q e).1))⟩
  rcases hl with e2 | e2
  · exact h.g i q hi (e2 ▸ e)
  · rw [e2] at e
    have := Option.some.inj e
    have := (h.a i hi).2
    omega
/-- Types lent. -/
structure Ltr (w : World) (B g cap : Nat) (L : List (Array Value)) (ts : List Tp) (A E : Nat → Nat) : Prop where
  o : w.ownsRow B 45 9 (.slice (some ⟨g, 0, none⟩) (ts.length + 9) cap) (ts.length + 9) (gfl (L ++ List.replicate 9 mkT))
  n : L.length = ts.length
  z : ∀ c ∈ L, c.size = 9
  a : ∀ i, i < ts.length → B ≤ A i ∧ A i ≤ E i
  d : ∀ i j, i < j → j < ts.length → E i ≤ A j
  g : ∀ i, i < ts.length → g < A i ∨ E i ≤ g
  k : ∀ (i : Nat) (t : Tp) (c : Array Value), ts[i]? = some t → L[i]? = some c → Ltp w (A i) (E i) t c
  m : ts.length ≤ 1000
theorem Ltr.next {w w' : World} {B g cap : Nat} {L : List (Array Value)} {ts : List Tp} {A E : Nat → Nat} (h : Ltr w B g cap L ts A E) (hb : Below w.heap.size w w') : Ltr w' B g cap L ts A E :=
  ⟨(Kp.of_below (S := fun _ => False) hb).owns h.o (fun _ _ e => e), h.n, h.z, h.a, h.d, h.g, fun i t c h1 h2 => (h.k i t c h1 h2).next hb, h.m⟩
theorem Ltr.all {w : World} {B g cap : Nat} {L : List (Array Value)} {ts : List Tp} {A E : Nat → Nat} (h : Ltr w B g cap L ts A E) : ∀ c ∈ L ++ List.replicate 9 mkT, c.size = 9 := fun c hc => by
  rcases List.mem_append.1 hc with hc | hc
  · exact h.z c hc
  · rw [List.eq_of_mem_replicate hc]; rfl
theorem Ltr.tsl {w : World} {B g cap : Nat} {L : List (Array Value)} {ts : List Tp} {A E : Nat → Nat} (h : Ltr w B g cap L ts A E) : TSl w (.slice (some ⟨g, 0, none⟩) ts.length cap) ts := by
  have ho := h.o
  rw [← h.n] at ho
  obtain ⟨h1, _, h3⟩ := Lgs.at ho h.all
  have hm := h.m
  have hn := h.n
  refine ⟨⟨_, cap, rfl, ⟨by omega, fun e => by cases e⟩, .inr ⟨g, 0, rfl, fun i t ht => ?_⟩⟩, by omega⟩
  have hil := (List.getElem?_eq_some_iff.1 ht).1
  have hc : L[i]? = some (L[i]'(by omega)) := List.getElem?_eq_getElem _
  refine ⟨_, (h.k i t _ ht hc).tpi, fun j u hu => ?_⟩
  rw [Nat.zero_add]
  exact h1 i _ hc j u hu
set_option maxRecDepth 1000000 in
set_option maxHeartbeats 4000000 in
theorem lendTs_any (w : World) (v : Value) (l : List Tp) (hv : TSl w v l) (hS : Shrt l) (hl : l.length ≤ 1000) : Calls Tryz.prog 6 #[v] w fun e w' => ∃ g cap L A E, e = .returned (.slice (some ⟨g, 0, none⟩) l.length cap) ∧ Hid (Ltr w' w.heap.size g cap L l A E ∧ Below w.heap.size w w') := by
  have HSH := hide hS
  obtain ⟨⟨a, cap, rfl, _, hform⟩, _⟩ := hv
  have HF := hide hform
  clear hform hS
  obtain ⟨i9, hi, hz0, hz1, hz2⟩ := info_ex infoTp3
  obtain ⟨w0, hmk, hown0, hgr0⟩ := run_make_own (P := Tryz.prog) w w.heap.size 24 45 i9 (.agg #[.string ⟨#[]⟩, .int .i64 0, .int .i64 0, .int .i64 0, .string ⟨#[]⟩, .bool false, .slice none 0 0, .slice none 0 0, .slice none 0 0]) 9 Tryz.underlying24 hi hz0 hz1 .i64 .i64 (l.length + 9) (by rw [hz2]; omega) (by unfold maxLen; omega) (Nat.le_refl _)
  have ec : ((l.length + 9 : Nat) : Int) = (l.length : Int) + 9 := by omega
  rw [ec] at hmk
  clear ec hi hz0 hz1 hz2
  have hbel0 : Below w.heap.size w w0 := (Below.refl _ _).grown hgr0 (Nat.le_refl _) (fun _ h => by cases h)
  have HX : Hid (Lty w (.slice (some ⟨w.heap.size, 0, none⟩) 0 (l.length + 9)) [] [] (l.take 0) (fun _ => 0) (fun _ => 0) w0) := ⟨hown0, rfl, fun _ h => by simp at h, fun i hi => by simp at hi, fun i j _ hj => by simp at hj, fun i q hi => by simp at hi, fun i t c h1 => by simp at h1, hbel0⟩
  have HSZ0 : Hid (∀ q, (Value.slice (some ⟨w.heap.size, 0, none⟩) 0 (l.length + 9)).ownBlock = some q → q < w0.heap.size) := fun q e => (hown0.lt q e).2
  clear hown0 hgr0 hbel0
  have HIT := hide infoTp
  have HAT : Hid (∀ w, (isAgg 45).run Tryz.prog w = .ok true w) := aggTp
  go_enter Tryz.func6, Tryz.ntmps6
  go_wp2_with fail
  clear hmk
  go_loopw [3, 4] (fun vo vi wx => ∃ (i : Nat) (a0 : Option Addr) (n0 c0 : Nat) (L : List (Array Value)) (A E : Nat → Nat), i ≤ l.length ∧ vo = .slice a0 n0 c0 ∧ vi = .int .i64 (i : Nat) ∧ Hid (Lty w (.slice a0 n0 c0) L [] (l.take i) A E wx)) (fun _ vi _ => l.length - (intOf vi).toNat)
  case atStart => exact ⟨0, _, _, _, [], _, _, by omega, rfl, rfl, HX⟩
  case round =>
    obtain ⟨i, a0, n0, c0, L, A, E, hi, rfl, rfl, HXi⟩ := hrel
    clear HX
    by_cases hlt : i < l.length
    · as_aux_lemma =>
      have g1 : (i : Int) < (l.length : Int) := by omega
      obtain ⟨t, ht⟩ : ∃ t, l[i]? = some t := ⟨l[i], List.getElem?_eq_getElem hlt⟩
      obtain ⟨b, off, rfl, hcc⟩ := HF.out.resolve_left (fun h => by rw [h] at hlt; simp at hlt)
      obtain ⟨c, hc, hcell⟩ := hcc i t ht
      have HC := hide hc
      obtain ⟨⟨vf, vc, vw, rfl, ⟨⟨af, cf, rfl, -, -⟩, -⟩, ⟨⟨ac, cc, rfl, -, -⟩, -⟩, ⟨⟨aw, cw, rfl, -, -⟩, -, -⟩⟩, -⟩ := hc
      unfold tpc at hcell HC
      have HCL : Hid (∀ j u, (#[.string t.n, .int .i64 t.k, .int .i64 t.lo, .int .i64 t.hi, .string t.r.n, .bool t.r.z, .slice af t.fs.length cf, .slice ac t.cs.length cc, .slice aw t.ws.length cw] : Array Value)[j]? = some u → wr.cell? ⟨b, off + i * 9 + j, none⟩ = some u) := fun j u hj => keep_below HXi.out.b _ _ (hcell j u hj)
      have HC2 : Hid (Tpi wr t #[.string t.n, .int .i64 t.k, .int .i64 t.lo, .int .i64 t.hi, .string t.r.n, .bool t.r.z, .slice af t.fs.length cf, .slice ac t.cs.length cc, .slice aw t.ws.length cw]) := HC.out.move (keep_below HXi.out.b)
      have HSI := hide (HSH.out t (List.mem_of_getElem? ht))
      have HTK := hide (takeP l i t ht)
      have HTL : Hid ((l.take i).length = i) := by show _ = _; rw [List.length_take]; omega
      have HLL : Hid ((L ++ []).length ≤ 1000000) := by
        have h1 := HXi.out.n
        have h2 := HTL.out
        show _ ≤ _
        rw [List.append_nil]
        omega
      clear hcc hcell ht HF HC
      go_wp2_with (refine wpList_aggAt rfl rfl HIT.out HAT.out b (off + i * 9) #[.string t.n, .int .i64 t.k, .int .i64 t.lo, .int .i64 t.hi, .string t.r.n, .bool t.r.z, .slice af t.fs.length cf, .slice ac t.cs.length cc, .slice aw t.ws.length cw] rfl rfl HCL.out ?_)
      refine (lendT_any wr t _ HC2.out HSI.out.1 HSI.out.2.1 HSI.out.2.2).mono ?_
      rintro e w3 ⟨c', rfl, hP⟩
      have hb3 := hP.out.2
      have hb4 := below_alloc4 w3 (.cells c' 45)
      have HX4 := hide ((HXi.out.next hb3).next hb4)
      have HK4 := hide (hP.out.1.next hb4)
      have HZ9 := hide hP.out.1.tpi.size9
      have H1C : Hid (∀ u ∈ c'.toList, u.oneCell' = true) := fun u hu => by
        have h := hP.out.1.tpi.all1
        rw [Array.all_eq_true_iff_forall_mem] at h
        exact h u (by simpa using hu)
      have HAL : Hid (w.heap.size ≤ (w3.alloc (.cells c' 45)).heap.size) := HX4.out.b.size
      have HLH : Hid (wr.heap.size ≤ w3.heap.size ∧ w3.heap.size ≤ (w3.alloc (.cells c' 45)).heap.size) := ⟨hb3.size, hb4.size⟩
      have HWL : Hid (w.heap.size ≤ wr.heap.size) := HXi.out.b.size
      have HLO : Hid (∀ j, j < (l.take i).length → E j ≤ wr.heap.size) := fun j hj => (HXi.out.a j hj).2
      have HVB : Hid (∀ q, (Value.slice a0 n0 c0).ownBlock = some q → q < wr.heap.size) := fun q e => (HXi.out.o.lt q e).2
      have HAP : Hid (∀ (ops : Array Oper) (rest : List Oper) (o : Oper) (ac : Act) (Q : Exit → Act → World → Prop) (s y : Operand), o.guard = none → o.op = .call { callee := .builtin .append, args := #[s, y], argTypes := #[24, 24] } → ac.eval s = .slice a0 n0 c0 → ac.eval y = .slice (some ⟨w3.heap.size, 0, none⟩) 1 1 → (∀ v' w', (∃ A' E', Lty w v' (L ++ [c']) [] (l.take (i + 1)) A' E' w') → wpList Tryz.prog ops Q rest (ac.put o.dst v') w') → wpList Tryz.prog ops Q (o :: rest) ac (w3.alloc (.cells c' 45))) := fun ops rest o ac Q s y h1 h2 h3 h4 h5 =>
        append_g infoTp3 Tryz.underlying24 rfl (by decide) (by decide) h1 h2 h3 HX4.out.o h4 (heap_alloc_new w3 _) HZ9.out H1C.out HLL.out HAL.out (fun v' w' h6 h7 h8 => h5 v' w' ⟨_, _, by rw [HTK.out]; exact HX4.out.app h7 h6 h8 HZ9.out HK4.out HWL.out HLH.out HLO.out HVB.out⟩)
      clear hP hb3 hb4 HCL HC2 HXi HLH HLO HVB
      go_wp2_with (first
        | (refine row1 infoTp3 Tryz.underlying24 (by decide) (by decide) rfl rfl rfl (c := c') rfl HZ9.out ?_)
        | (refine HAP.out _ _ _ _ _ _ _ rfl rfl rfl rfl ?_; intro v' w' hr'))
      obtain ⟨A', E', hr'⟩ := hr'
      obtain ⟨a2, n2, c2, rfl⟩ : ∃ a n c, v' = .slice a n c := by obtain ⟨a, c, h, _⟩ := own_formG hr'.o; exact ⟨a, _, c, h⟩
      have HR' := hide hr'
      clear hr' HAP HX4 HK4
      go_wp2_with fail
      go_roundw
      case rel => exact ⟨i + 1, _, _, _, _, _, _, by omega, rfl, by go_num, HR'⟩
      case measure => simp [intOf]; omega
    · have g1 : ¬ (i : Int) < (l.length : Int) := by omega
      have HX2 : Hid (Lty w (.slice a0 n0 c0) L (List.replicate 0 mkT) l A E wr) := by have h := HXi.out; rw [List.take_of_length_le (by omega)] at h; exact h
      clear HXi HF
      go_wp2_with fail
      go_loopw [3, 5] (fun vo vi wx => ∃ (k : Nat) (a0 : Option Addr) (n0 c0 : Nat), k ≤ 9 ∧ vo = .slice a0 n0 c0 ∧ vi = .int .i64 (k : Nat) ∧ Hid (Lty w (.slice a0 n0 c0) L (List.replicate k mkT) l A E wx)) (fun _ vi _ => 9 - (intOf vi).toNat)
      case atStart => exact ⟨0, _, _, _, by omega, rfl, rfl, HX2⟩
      case round =>
        rename World => wz
        obtain ⟨k, a1, n1, c1, hk, rfl, rfl, HXk⟩ := hrel
        clear HX2
        by_cases hlt9 : k < 9
        · as_aux_lemma =>
          have g2 : (k : Int) < 9 := by omega
          have HX4 := hide (HXk.out.next (below_alloc4 wz (.cells mkT 45)))
          have HLN := hide HXk.out.n
          have HLL : Hid ((L ++ List.replicate k mkT).length ≤ 1000000) := by have := HLN.out; show _ ≤ _; simp; omega
          have HAL : Hid (w.heap.size ≤ (wz.alloc (.cells mkT 45)).heap.size) := HX4.out.b.size
          have HAP : Hid (∀ (ops : Array Oper) (rest : List Oper) (o : Oper) (ac : Act) (Q : Exit → Act → World → Prop) (s y : Operand), o.guard = none → o.op = .call { callee := .builtin .append, args := #[s, y], argTypes := #[24, 24] } → ac.eval s = .slice a1 n1 c1 → ac.eval y = .slice (some ⟨wz.heap.size, 0, none⟩) 1 1 → (∀ v' w', Lty w v' L (List.replicate (k + 1) mkT) l A E w' → wpList Tryz.prog ops Q rest (ac.put o.dst v') w') → wpList Tryz.prog ops Q (o :: rest) ac (wz.alloc (.cells mkT 45))) := fun ops rest o ac Q s y h1 h2 h3 h4 h5 =>
            append_g infoTp3 Tryz.underlying24 rfl (by decide) (by decide) h1 h2 h3 HX4.out.o h4 (heap_alloc_new wz _) rfl mkT_one HLL.out HAL.out (fun v' w' h6 h7 h8 => h5 v' w' (by rw [List.replicate_succ']; exact HX4.out.mark h7 h6 h8))
          clear HXk HLN
          go_wp2_with (first
            | (refine row1 infoTp3 Tryz.underlying24 (by decide) (by decide) rfl rfl rfl (c := mkT) rfl rfl ?_)
            | (refine HAP.out _ _ _ _ _ _ _ rfl rfl rfl rfl ?_; intro v' w' hr'))
          obtain ⟨a2, n2, c2, rfl⟩ : ∃ a n c, v' = .slice a n c := by obtain ⟨a, c, h, _⟩ := own_formG hr'.o; exact ⟨a, _, c, h⟩
          have HR' := hide hr'
          clear hr' HAP HX4
          go_wp2_with fail
          go_roundw
          case rel => exact ⟨k + 1, _, _, _, by omega, rfl, by go_num, HR'⟩
          case measure => simp [intOf]; omega
        · as_aux_lemma =>
          have g2 : ¬ (k : Int) < 9 := by omega
          have hk9 : k = 9 := by omega
          subst hk9
          have ho := HXk.out.o
          rw [List.length_append, List.length_replicate, HXk.out.n] at ho
          rcases id ho.2 with ⟨_, h0⟩ | ⟨g, cap', cur, hv, -, -, h1, -⟩
          · omega
          injection hv with e1 e2 e3
          subst e1
          subst e2
          subst e3
          have HO2 := hide ho
          have h2' : l.length ≤ c1 := by omega
          clear ho h1 cur
          go_wp2_with fail
          go_ret
          exact ⟨g, c1, rfl, L, A, E, ⟨HO2.out, HXk.out.n, HXk.out.z, fun i hi => (HXk.out.a i hi).1, HXk.out.d, fun i hi => HXk.out.g i g hi rfl, HXk.out.k, hl⟩, HXk.out.b⟩
end
section
open Go.RowKit Go
/-! ### BackType, BackTypes -/
set_option maxRecDepth 1000000 in
set_option maxHeartbeats 2000000 in
theorem backT_any {w : World} {lo hi : Nat} {t : Tp} {c : Array Value} (h : Ltp w lo hi t c) (cu : Array Value) (hu : Tpi w t cu) : Calls Tryz.prog 25 #[.agg c, .agg cu] w fun e w' => e = .returned (.bool true) ∧ Below w.heap.size w w' := by
  have hln := h.ln
  obtain ⟨⟨vf, vc, vw, rfl, hF, hC, hW, _⟩, _, _, _⟩ := h
  obtain ⟨⟨uf, uc, uw, rfl, gF, gC, gW⟩, _⟩ := hu
  have HF := hide hF
  have HC := hide hC
  have HW := hide hW
  have HUF := hide gF
  have HUC := hide gC
  have HUW := hide gW
  obtain ⟨⟨af, cf, hvf, _⟩, _, _⟩ := hF
  obtain ⟨⟨ac, cc, hvc, _⟩, _, _⟩ := hC
  obtain ⟨⟨aw, cw, hvw, _⟩, _, _⟩ := hW
  rw [List.length_map] at hvf hvc
  subst hvf
  subst hvc
  subst hvw
  obtain ⟨⟨bf, df, rfl, _, _⟩, _⟩ := gF
  obtain ⟨⟨bc, dc, rfl, _, _⟩, _⟩ := gC
  obtain ⟨⟨bw, dw, rfl, _, _⟩, _, _⟩ := gW
  unfold tpc
  obtain ⟨W, hW2⟩ : ∃ W, W = (w.alloc (.cells #[.string t.n, .int .i64 t.k, .int .i64 t.lo, .int .i64 t.hi, .string t.r.n, .bool t.r.z, .slice (some ⟨af, 0, none⟩) t.fs.length cf, .slice (some ⟨ac, 0, none⟩) t.cs.length cc, .slice (some ⟨aw, 0, none⟩) t.ws.length cw] 45)).alloc (.cells #[.string t.n, .int .i64 t.k, .int .i64 t.lo, .int .i64 t.hi, .string t.r.n, .bool t.r.z, .slice bf t.fs.length df, .slice bc t.cs.length dc, .slice bw t.ws.length dw] 45) := ⟨_, rfl⟩
  have z1 : (w.alloc (.cells #[.string t.n, .int .i64 t.k, .int .i64 t.lo, .int .i64 t.hi, .string t.r.n, .bool t.r.z, .slice (some ⟨af, 0, none⟩) t.fs.length cf, .slice (some ⟨ac, 0, none⟩) t.cs.length cc, .slice (some ⟨aw, 0, none⟩) t.ws.length cw] 45)).heap.size = w.heap.size + 1 := by simp
  have HA : Hid (W.heap[w.heap.size]? = some (.cells #[.string t.n, .int .i64 t.k, .int .i64 t.lo, .int .i64 t.hi, .string t.r.n, .bool t.r.z, .slice (some ⟨af, 0, none⟩) t.fs.length cf, .slice (some ⟨ac, 0, none⟩) t.cs.length cc, .slice (some ⟨aw, 0, none⟩) t.ws.length cw] 45 (0, 0))) := by rw [hW2]; exact blk_alloc _ (heap_alloc_new w _)
  have HU : Hid (W.heap[w.heap.size + 1]? = some (.cells #[.string t.n, .int .i64 t.k, .int .i64 t.lo, .int .i64 t.hi, .string t.r.n, .bool t.r.z, .slice bf t.fs.length df, .slice bc t.cs.length dc, .slice bw t.ws.length dw] 45 (0, 0))) := by
    have h := heap_alloc_new (w.alloc (.cells #[.string t.n, .int .i64 t.k, .int .i64 t.lo, .int .i64 t.hi, .string t.r.n, .bool t.r.z, .slice (some ⟨af, 0, none⟩) t.fs.length cf, .slice (some ⟨ac, 0, none⟩) t.cs.length cc, .slice (some ⟨aw, 0, none⟩) t.ws.length cw] 45)) (.cells #[.string t.n, .int .i64 t.k, .int .i64 t.lo, .int .i64 t.hi, .string t.r.n, .bool t.r.z, .slice bf t.fs.length df, .slice bc t.cs.length dc, .slice bw t.ws.length dw] 45)
    rw [z1] at h
    rw [hW2]
    exact h
  have HB : Hid (Below w.heap.size w W) := by rw [hW2]; exact (below_alloc4 w _).trans ((below_alloc4 _ _).mono (by rw [z1]; omega))
  have HIR := hide infoRf
  have HAR : Hid (∀ w, (isAgg 40).run Tryz.prog w = .ok true w) := aggRf
  have HR1 : Hid (∀ j u, (#[.string t.r.n, .bool t.r.z] : Array Value)[j]? = some u → W.cell? ⟨w.heap.size, 4 + j, none⟩ = some u) := sub_cell HA.out (fun j u hj => by
    rcases j with _ | _ | j
    · exact hj
    · exact hj
    · simp at hj)
  have HR2 : Hid (∀ j u, (#[.string t.r.n, .bool t.r.z] : Array Value)[j]? = some u → W.cell? ⟨w.heap.size + 1, 4 + j, none⟩ = some u) := sub_cell HU.out (fun j u hj => by
    rcases j with _ | _ | j
    · exact hj
    · exact hj
    · simp at hj)
  have HEQ : Hid ((decide (t.r.n = t.r.n) && (t.r.z == t.r.z)) = true) := by show _ = _; cases t.r.z <;> simp
  go_enter Tryz.func25, Tryz.ntmps25
  go_upto_region 1 with fail
  (try simp only [Act.put]); (try simp only [List.setIfInBounds_toArray, List.set_cons_zero, List.set_cons_succ])
  rw [← hW2]
  clear hW2 z1
  have a0 : W.cell? ⟨w.heap.size, 0, none⟩ = some (.string t.n) := blk_cell (j := 0) HA.out rfl
  have a1 : W.cell? ⟨w.heap.size, 1, none⟩ = some (.int .i64 t.k) := blk_cell (j := 1) HA.out rfl
  have a2 : W.cell? ⟨w.heap.size, 2, none⟩ = some (.int .i64 t.lo) := blk_cell (j := 2) HA.out rfl
  have a3 : W.cell? ⟨w.heap.size, 3, none⟩ = some (.int .i64 t.hi) := blk_cell (j := 3) HA.out rfl
  have a6 : W.cell? ⟨w.heap.size, 6, none⟩ = some (.slice (some ⟨af, 0, none⟩) t.fs.length cf) := blk_cell (j := 6) HA.out rfl
  have u0 : W.cell? ⟨w.heap.size + 1, 0, none⟩ = some (.string t.n) := blk_cell (j := 0) HU.out rfl
  have u1 : W.cell? ⟨w.heap.size + 1, 1, none⟩ = some (.int .i64 t.k) := blk_cell (j := 1) HU.out rfl
  have u2 : W.cell? ⟨w.heap.size + 1, 2, none⟩ = some (.int .i64 t.lo) := blk_cell (j := 2) HU.out rfl
  have u3 : W.cell? ⟨w.heap.size + 1, 3, none⟩ = some (.int .i64 t.hi) := blk_cell (j := 3) HU.out rfl
  have u6 : W.cell? ⟨w.heap.size + 1, 6, none⟩ = some (.slice bf t.fs.length df) := blk_cell (j := 6) HU.out rfl
  have e0 := str_yes t.n
  have e1 : (t.k == t.k) = true := beq_self_eq_true _
  have e2 : (t.lo == t.lo) = true := beq_self_eq_true _
  have e3 : (t.hi == t.hi) = true := beq_self_eq_true _
  go_upto_region 2 with (first
    | (refine wpList_aggAt rfl rfl HIR.out HAR.out w.heap.size 4 #[.string t.r.n, .bool t.r.z] rfl rfl HR1.out ?_)
    | (refine wpList_aggAt rfl rfl HIR.out HAR.out (w.heap.size + 1) 4 #[.string t.r.n, .bool t.r.z] rfl rfl HR2.out ?_)
    | (with_reducible refine wpList_eqrf rfl rfl t.r.n t.r.n t.r.z t.r.z true rfl rfl HEQ.out ?_))
  clear a0 a1 a2 a3 u0 u1 u2 u3 e0 e1 e2 e3 HR1 HR2 HEQ HIR HAR
  go_wp2_with fail
  refine (backF_any (HF.out.next HB.out) _ (HUF.out.mv (keep_below HB.out)) (by omega)).mono ?_
  rintro e w2 ⟨rfl, hb2⟩
  have HA2 := hide ((hb2.block _ (blk_lt HA.out)).trans HA.out)
  have HU2 := hide ((hb2.block _ (blk_lt HU.out)).trans HU.out)
  have HB2 : Hid (Below w.heap.size w w2) := HB.out.trans (hb2.mono HB.out.size)
  clear hb2 HA HU HB a6 u6
  have a7 : w2.cell? ⟨w.heap.size, 7, none⟩ = some (.slice (some ⟨ac, 0, none⟩) t.cs.length cc) := blk_cell (j := 7) HA2.out rfl
  have u7 : w2.cell? ⟨w.heap.size + 1, 7, none⟩ = some (.slice bc t.cs.length dc) := blk_cell (j := 7) HU2.out rfl
  go_wp2_with fail
  refine (backC_any (HC.out.next HB2.out) _ (HUC.out.mv (keep_below HB2.out)) (by omega)).mono ?_
  rintro e w3 ⟨rfl, hb3⟩
  have HA3 := hide ((hb3.block _ (blk_lt HA2.out)).trans HA2.out)
  have HU3 := hide ((hb3.block _ (blk_lt HU2.out)).trans HU2.out)
  have HB3 : Hid (Below w.heap.size w w3) := HB2.out.trans (hb3.mono HB2.out.size)
  clear hb3 HA2 HU2 HB2 a7 u7
  have a8 : w3.cell? ⟨w.heap.size, 8, none⟩ = some (.slice (some ⟨aw, 0, none⟩) t.ws.length cw) := blk_cell (j := 8) HA3.out rfl
  have u8 : w3.cell? ⟨w.heap.size + 1, 8, none⟩ = some (.slice bw t.ws.length dw) := blk_cell (j := 8) HU3.out rfl
  go_wp2_with fail
  refine (backTexts_any (HW.out.below HB3.out) _ (HUW.out.move (keep_below HB3.out))).mono ?_
  rintro e w4 ⟨rfl, hb4⟩
  have HB4 : Hid (Below w.heap.size w w4) := HB3.out.trans (hb4.mono HB3.out.size)
  clear hb4 HA3 HU3 HB3 a8 u8
  go_wp2_with fail
  go_ret
  exact ⟨rfl, HB4.out⟩
set_option maxRecDepth 1000000 in
set_option maxHeartbeats 2000000 in
theorem backTs_any {w : World} {B g cap : Nat} {L : List (Array Value)} {ts : List Tp} {A E : Nat → Nat} (h : Ltr w B g cap L ts A E) (u : Value) (hu : TSl w u ts) : Calls Tryz.prog 10 #[.slice (some ⟨g, 0, none⟩) ts.length cap, u] w fun e w' => e = .returned (.bool true) ∧ Below w.heap.size w w' := by
  have HH := hide h
  have hm := h.m
  have ho := h.o
  rw [← h.n] at ho
  obtain ⟨hc1, hc2, hcap⟩ := Lgs.at ho h.all
  rw [h.n] at hc2 hcap
  have HC1 := hide hc1
  have HC2 := hide hc2
  obtain ⟨⟨au, cu, rfl, _, hf⟩, _⟩ := hu
  have HF := hide hf
  have hcap2 : (ts.length : Int) + 9 ≤ (cap : Int) := by omega
  have HI := hide infoTp
  have HA : Hid (∀ w, (isAgg 45).run Tryz.prog w = .ok true w) := aggTp
  clear ho hc1 hc2 hf hcap h
  go_enter Tryz.func10, Tryz.ntmps10
  go_wp2_with fail
  go_loopw [5] (fun ii wx => ∃ i : Nat, i ≤ ts.length ∧ ii = .int .i64 (i : Nat) ∧ Hid (Below w.heap.size w wx)) (fun ii _ => ts.length - (intOf ii).toNat)
  case atStart => exact ⟨0, by omega, rfl, Below.refl _ _⟩
  case round =>
    obtain ⟨i, hi, rfl, HBw⟩ := hrel
    by_cases hlt : i < ts.length
    · as_aux_lemma =>
      have g1 : (i : Int) < (ts.length : Int) := by omega
      obtain ⟨t, ht⟩ : ∃ t, ts[i]? = some t := ⟨ts[i], List.getElem?_eq_getElem hlt⟩
      obtain ⟨c, hc⟩ : ∃ c, L[i]? = some c := ⟨L[i]'(by rw [HH.out.n]; exact hlt), List.getElem?_eq_getElem _⟩
      obtain ⟨b, off, rfl, hcc⟩ := HF.out.resolve_left (fun h => by rw [h] at hlt; simp at hlt)
      obtain ⟨d, hd, hdc⟩ := hcc i t ht
      have HS1 : Hid (c.size = 9) := HH.out.z c (List.mem_of_getElem? hc)
      have HS2 : Hid (d.size = 9) := hd.size9
      have HQ1 : Hid (∀ w', (∃ t : Ext wr, w' = t.w') → ∀ j y, c[j]? = some y → w'.cell? ⟨g, i * 9 + j, none⟩ = some y) := fun w' ⟨t, e⟩ j y hy => by
        rw [e]
        exact keep_below t.h _ _ (keep_below HBw.out _ _ (HC1.out i c hc j y hy))
      have HQ2 : Hid (∀ w', (∃ t : Ext wr, w' = t.w') → ∀ j y, d[j]? = some y → w'.cell? ⟨b, off + i * 9 + j, none⟩ = some y) := fun w' ⟨t, e⟩ j y hy => by
        rw [e]
        exact keep_below t.h _ _ (keep_below HBw.out _ _ (hdc j y hy))
      have HBT : Hid (∀ t' : Ext wr, Calls Tryz.prog 25 #[.agg c, .agg d] t'.w' fun e w'' => e = .returned (.bool true) ∧ ∃ t2 : Ext wr, w'' = t2.w') := fun t' => Calls.ext_below (backT_any (((HH.out.k i t c ht hc).next HBw.out).next t'.h) d (hd.move (fun p x hx => keep_below t'.h _ _ (keep_below HBw.out _ _ hx))))
      clear hcc hc hd hdc ht HC1 HC2 HF
      go_wp2_with fail
      refine region_ext (by kernel_rfl) (by kernel_rfl) ?_
      repeat (
        with_reducible refine wpQuiet_step (fun K hK => ?_)
        first
          | (refine qstep_ex11 rfl (.agg c) (fun w' hw' => exec_aggAt HI.out HA.out rfl (g := g) (off := i * 9) rfl HS1.out (HQ1.out w' hw')) (hK _ ?_); clear hK K)
          | (refine qstep_ex11 rfl (.agg d) (fun w' hw' => exec_aggAt HI.out HA.out rfl (g := b) (off := off + i * 9) rfl HS2.out (HQ2.out w' hw')) (hK _ ?_); clear hK K)
          | (go_simp
             first
               | (with_reducible refine hK _ ?_; clear hK K)
               | (apply Exists.intro
                  refine ⟨fun _ => ?_, hK _ ?_⟩
                  (go_at_call 25; with_reducible exact HBT.out _)
                  clear hK K)))
      refine wpQuiet_nil ?_
      rintro _ ⟨tq, rfl⟩
      have HB2 : Hid (Below w.heap.size w tq.w') := HBw.out.trans (tq.h.mono HBw.out.size)
      clear HQ1 HQ2 HBT
      go_wp2_with fail
      go_roundw
      case rel => exact ⟨i + 1, by omega, by go_num, HB2⟩
      case measure => simp [intOf]; omega
    · have g1 : ¬ (i : Int) < (ts.length : Int) := by omega
      go_wp2_with fail
      go_loopw [7] (fun ii wx => ∃ j : Nat, j ≤ 9 ∧ ii = .int .i64 ((ts.length + j : Nat) : Int) ∧ Hid (Below w.heap.size w wx)) (fun ii _ => ts.length + 9 - (intOf ii).toNat)
      case atStart => exact ⟨0, by omega, by simp, HBw⟩
      case round => as_aux_lemma =>
        rename World => wz
        obtain ⟨j, hj, rfl, HBz⟩ := hrel
        clear HBw
        by_cases hlt2 : j < 9
        · obtain ⟨p, hp⟩ : ∃ p, p = ts.length + j := ⟨_, rfl⟩
          have q1 : wz.cell? ⟨g, p * 9 + 1, none⟩ = some (.int .i64 777) := by rw [hp]; exact keep_below HBz.out _ _ (HC2.out j hlt2 1 _ rfl)
          have q6 : wz.cell? ⟨g, p * 9 + 6, none⟩ = some (.slice none 0 0) := by rw [hp]; exact keep_below HBz.out _ _ (HC2.out j hlt2 6 _ rfl)
          rw [← hp]
          have g2 : (p : Int) < (ts.length : Int) + 9 := by omega
          have g3 : (0 : Int) ≤ (p : Int) := by omega
          have hm2 : p ≤ 100009 := by omega
          have HP := hide hp
          clear hp HC1 HC2 HF
          go_wp2_with fail
          go_roundw
          case rel => exact ⟨j + 1, by omega, by have := HP.out; first | (go_num; done) | (rw [this]; go_num) | (congr 1; omega), HBz⟩
          case measure => have := HP.out; simp [intOf]; omega
        · have g2 : ¬ ((ts.length + j : Nat) : Int) < (ts.length : Int) + 9 := by omega
          go_wp2_with fail
          go_ret
          exact ⟨rfl, HBz.out⟩
end
section
open Go.RowKit Go
/-! ### OverType, OverTypes -/
theorem sl_blkG {g n c q : Nat} (h : (Value.slice (some ⟨g, 0, none⟩) n c).ownBlock = some q) : q = g := (Option.some.inj h).symm
theorem own_neG {w : World} {B B' g g' n n' c c' m m' s s' : Nat} {e e' : TypeId} {xs ys : List Value} (h : w.ownsRow B e s (.slice (some ⟨g, 0, none⟩) m c) n xs) (h' : w.ownsRow B' e' s' (.slice (some ⟨g', 0, none⟩) m' c') n' ys) (hne : e ≠ e') : g ≠ g' := fun hg => by
  subst hg
  rcases h.2 with ⟨q, _⟩ | ⟨g1, c1, cur1, q, _, h1, _⟩
  · cases q
  rcases h'.2 with ⟨q', _⟩ | ⟨g2, c2, cur2, q', _, h2, _⟩
  · cases q'
  injection q with q _ _
  injection q with q
  injection q with q _ _
  injection q' with q' _ _
  injection q' with q'
  injection q' with q' _ _
  subst q
  subst q'
  rw [h1] at h2
  injection h2 with h2
  injection h2 with _ h2 _
  exact hne h2
set_option maxRecDepth 1000000 in
set_option maxHeartbeats 2000000 in
theorem overT_any {w : World} {lo hi : Nat} {t : Tp} {c : Array Value} (h : Ltp w lo hi t c) : Calls Tryz.prog 27 #[.agg c] w fun e w' => e = .returned (.tuple #[]) ∧ Kp (fun q => lo ≤ q ∧ q < hi) w w' := by
  have hln := h.ln
  obtain ⟨⟨vf, vc, vw, rfl, hF, hC, hW, hq⟩, _, _, _⟩ := h
  have hFa := hF.all
  have hCa := hC.all
  obtain ⟨⟨gf, cf, hvf, oF⟩, _, _⟩ := hF
  obtain ⟨⟨gc, cc, hvc, oC⟩, _, _⟩ := hC
  obtain ⟨⟨gw, cw, hvw, oW⟩, _, _⟩ := hW
  rw [List.length_map] at hvf hvc oF oC
  subst hvf
  subst hvc
  subst hvw
  have hqf := hq gf (.inl rfl)
  have hqc := hq gc (.inr (.inl rfl))
  have hqw := hq gw (.inr (.inr rfl))
  have hfw := (oF.lt gf rfl).2
  have hcw := (oC.lt gc rfl).2
  have hww := (oW.lt gw rfl).2
  have nfc := own_neG oF oC (by decide)
  have nfw := own_neG oF oW (by decide)
  have ncw := own_neG oC oW (by decide)
  unfold tpc
  obtain ⟨W, hW2⟩ : ∃ W, W = w.alloc (.cells #[.string t.n, .int .i64 t.k, .int .i64 t.lo, .int .i64 t.hi, .string t.r.n, .bool t.r.z, .slice (some ⟨gf, 0, none⟩) t.fs.length cf, .slice (some ⟨gc, 0, none⟩) t.cs.length cc, .slice (some ⟨gw, 0, none⟩) t.ws.length cw] 45) := ⟨_, rfl⟩
  have HA : Hid (W.heap[w.heap.size]? = some (.cells #[.string t.n, .int .i64 t.k, .int .i64 t.lo, .int .i64 t.hi, .string t.r.n, .bool t.r.z, .slice (some ⟨gf, 0, none⟩) t.fs.length cf, .slice (some ⟨gc, 0, none⟩) t.cs.length cc, .slice (some ⟨gw, 0, none⟩) t.ws.length cw] 45 (0, 0))) := by rw [hW2]; exact heap_alloc_new w _
  have HK : Hid (Kp (fun q => lo ≤ q ∧ q < hi) w W) := by rw [hW2]; exact (Kp.refl _ w).alloc _
  have HOF := hide ((Kp.of_below (S := fun _ => False) (below_alloc4 w (.cells #[.string t.n, .int .i64 t.k, .int .i64 t.lo, .int .i64 t.hi, .string t.r.n, .bool t.r.z, .slice (some ⟨gf, 0, none⟩) t.fs.length cf, .slice (some ⟨gc, 0, none⟩) t.cs.length cc, .slice (some ⟨gw, 0, none⟩) t.ws.length cw] 45))).owns oF (fun _ _ e => e))
  have HOC := hide ((Kp.of_below (S := fun _ => False) (below_alloc4 w (.cells #[.string t.n, .int .i64 t.k, .int .i64 t.lo, .int .i64 t.hi, .string t.r.n, .bool t.r.z, .slice (some ⟨gf, 0, none⟩) t.fs.length cf, .slice (some ⟨gc, 0, none⟩) t.cs.length cc, .slice (some ⟨gw, 0, none⟩) t.ws.length cw] 45))).owns oC (fun _ _ e => e))
  have HOW := hide ((Kp.of_below (S := fun _ => False) (below_alloc4 w (.cells #[.string t.n, .int .i64 t.k, .int .i64 t.lo, .int .i64 t.hi, .string t.r.n, .bool t.r.z, .slice (some ⟨gf, 0, none⟩) t.fs.length cf, .slice (some ⟨gc, 0, none⟩) t.cs.length cc, .slice (some ⟨gw, 0, none⟩) t.ws.length cw] 45))).owns oW (fun _ _ e => e))
  rw [← hW2] at HOF HOC HOW
  have HFa := hide hFa
  have HCa := hide hCa
  clear oF oC oW hq hFa hCa
  go_enter Tryz.func27, Tryz.ntmps27
  go_upto_region 1 with fail
  rw [← hW2]
  clear hW2
  have a6 : W.cell? ⟨w.heap.size, 6, none⟩ = some (.slice (some ⟨gf, 0, none⟩) t.fs.length cf) := blk_cell (j := 6) HA.out rfl
  go_wp2_with fail
  refine (overF_any (L := t.fs.map fdc ++ List.replicate 9 mkF) HOF.out (by simp) HFa.out (by omega) (by omega)).mono ?_
  rintro e w2 ⟨rfl, hk2⟩
  have HA2 := hide ((hk2.block _ (blk_lt HA.out) (fun e => by omega)).trans HA.out)
  have HK2 : Hid (Kp (fun q => lo ≤ q ∧ q < hi) w w2) := HK.out.trans hk2 (fun q _ e => by omega)
  have HOC2 := hide (hk2.owns HOC.out (fun q e e2 => by have := sl_blkG e; omega))
  have HOW2 := hide (hk2.owns HOW.out (fun q e e2 => by have := sl_blkG e; omega))
  clear hk2 HA HK HOF HOC HOW a6
  have a7 : w2.cell? ⟨w.heap.size, 7, none⟩ = some (.slice (some ⟨gc, 0, none⟩) t.cs.length cc) := blk_cell (j := 7) HA2.out rfl
  go_wp2_with fail
  refine (overC_any (L := t.cs.map czc ++ List.replicate 9 mkC) HOC2.out (by simp) HCa.out (by omega) (by omega)).mono ?_
  rintro e w3 ⟨rfl, hk3⟩
  have HA3 := hide ((hk3.block _ (blk_lt HA2.out) (fun e => by omega)).trans HA2.out)
  have HK3 : Hid (Kp (fun q => lo ≤ q ∧ q < hi) w w3) := HK2.out.trans hk3 (fun q _ e => by omega)
  have HOW3 := hide (hk3.owns HOW2.out (fun q e e2 => by have := sl_blkG e; omega))
  clear hk3 HA2 HK2 HOC2 HOW2 a7
  have a8 : w3.cell? ⟨w.heap.size, 8, none⟩ = some (.slice (some ⟨gw, 0, none⟩) t.ws.length cw) := blk_cell (j := 8) HA3.out rfl
  go_wp2_with fail
  refine (overTexts_any HOW3.out (by omega) (by omega)).mono ?_
  rintro e w4 ⟨rfl, hk4⟩
  have HK4 : Hid (Kp (fun q => lo ≤ q ∧ q < hi) w w4) := HK3.out.trans hk4 (fun q _ e => by omega)
  clear hk4 HA3 HK3 HOW3 a8
  go_wp2_with fail
  go_end0
  exact ⟨rfl, HK4.out⟩
def ovT : Array Value := #[.string ⟨#[]⟩, .int .i64 778, .int .i64 0, .int .i64 0, .string ⟨#[]⟩, .bool false, .slice none 0 0, .slice none 0 0, .slice none 0 0]
def ovp : Tp := ⟨⟨#[]⟩, 778, 0, 0, zrf, [], [], []⟩
theorem ovT_one : ∀ u ∈ ovT.toList, u.oneCell' = true := fun u hu => by
  simp only [ovT, List.mem_cons, List.not_mem_nil, or_false] at hu
  rcases hu with rfl | rfl | rfl | rfl | rfl | rfl | rfl | rfl | rfl <;> rfl
theorem ovp_tpi (w : World) : Tpi w ovp ovT := ⟨⟨.slice none 0 0, .slice none 0 0, .slice none 0 0, rfl, GSl.nil, GSl.nil, ⟨⟨none, 0, rfl, ⟨Nat.le_refl _, fun _ => rfl⟩, .inl rfl⟩, Nat.zero_le _, fun _ h => by cases h⟩⟩, ⟨by show (ByteArray.mk #[]).size ≤ _; decide, by show (ByteArray.mk #[]).size ≤ _; decide, ⟨by show (-9223372036854775808 : Int) ≤ 778; decide, by show (778 : Int) ≤ _; decide⟩, ⟨by show (-9223372036854775808 : Int) ≤ 0; decide, by show (0 : Int) ≤ _; decide⟩, ⟨by show (-9223372036854775808 : Int) ≤ 0; decide, by show (0 : Int) ≤ _; decide⟩⟩⟩
/-- What OverTypes has in hand. -/
structure Ovt (w wr : World) (B g cap : Nat) (L : List (Array Value)) (ts : List Tp) (A E : Nat → Nat) (k : Nat) : Prop where
  o : ∃ L', wr.ownsRow B 45 9 (.slice (some ⟨g, 0, none⟩) (ts.length + 9) cap) (ts.length + 9) (gfl (L' ++ List.replicate 9 mkT)) ∧ L'.length = ts.length ∧ (∀ c ∈ L', c.size = 9) ∧ (∀ j, k ≤ j → L'[j]? = L[j]?) ∧ ∀ j, j < k → L'[j]? = some ovT
  v : ∀ (i : Nat) (t : Tp) (c : Array Value), k ≤ i → ts[i]? = some t → L[i]? = some c → Ltp wr (A i) (E i) t c
  k : Kp (fun q => B ≤ q) w wr
theorem Ovt.start {w : World} {B g cap : Nat} {L : List (Array Value)} {ts : List Tp} {A E : Nat → Nat} (h : Ltr w B g cap L ts A E) : Ovt w w B g cap L ts A E 0 :=
  ⟨⟨L, h.o, h.n, h.z, fun _ _ => rfl, fun j hj => absurd hj (by omega)⟩, fun i t c _ h1 h2 => h.k i t c h1 h2, Kp.refl _ _⟩
theorem all9 {L : List (Array Value)} (h : ∀ c ∈ L, c.size = 9) : ∀ c ∈ L ++ List.replicate 9 mkT, c.size = 9 := fun c hc => by
  rcases List.mem_append.1 hc with hc | hc
  · exact h c hc
  · rw [List.eq_of_mem_replicate hc]; rfl
theorem Ovt.step {w wr w5 w6 : World} {B g cap : Nat} {L : List (Array Value)} {ts : List Tp} {A E : Nat → Nat} {k : Nat} {cur : Array Value} (h0 : Ltr w B g cap L ts A E) (h : Ovt w wr B g cap L ts A E k) (hk : k < ts.length) (h5 : Kp (fun q => A k ≤ q ∧ q < E k) wr w5)
    (hc : w5.heap[g]? = some (.cells cur 45 (0, 0))) (h6 : w6.heap[g]? = some (.cells (splice cur.toList (k * 9) ovT.toList).toArray 45 (0, 0))) (hk6 : Kp (fun q => q = g) w5 w6) : Ovt w w6 B g cap L ts A E (k + 1) := by
  obtain ⟨L1, ho, hn, hs, he, hv⟩ := h.o
  have hlo : B ≤ g := (ho.lt g rfl).1
  have hgi := h0.g k hk
  have hab := h0.a k hk
  have ho5 := h5.owns ho (fun q hq e => by have e2 := sl_blkG hq; omega)
  have ho6 := own_partG (c' := ovT) (j := k) ho5 (by simp [hn]) (all9 hs) hc (by omega) rfl h6
  rw [List.set_append_left _ _ (by omega)] at ho6
  refine ⟨⟨L1.set k ovT, ho6, by simp [hn], fun c hc => ?_, fun j hj => ?_, fun j hj => ?_⟩, fun i u c hi h1 h2 => ?_, (h.k.trans h5 (fun q _ e => by omega)).trans hk6 (fun q _ e => by omega)⟩
  · rcases List.mem_or_eq_of_mem_set hc with e | e
    · exact hs c e
    · rw [e]; rfl
  · rw [List.getElem?_set_ne (by omega)]
    exact he j (by omega)
  · by_cases e : j = k
    · subst e
      rw [List.getElem?_set_self (by omega)]
    · rw [List.getElem?_set_ne (by omega)]
      exact hv j (by omega)
  · have hil := (List.getElem?_eq_some_iff.1 h1).1
    have hd := h0.d k i (by omega) hil
    have ho := h0.g i hil
    exact ((h.v i u c (by omega) h1 h2).kp h5 (fun q e1 e2 e => by omega)).kp hk6 (fun q e1 e2 e => by omega)
theorem Ovt.tsl {w wr : World} {B g cap : Nat} {L : List (Array Value)} {ts : List Tp} {A E : Nat → Nat} (hm : ts.length ≤ 1000) (h : Ovt w wr B g cap L ts A E ts.length) : TSl wr (.slice (some ⟨g, 0, none⟩) ts.length cap) (List.replicate ts.length ovp) := by
  obtain ⟨L1, ho, hn, hs, _, hv⟩ := h.o
  rw [← hn] at ho
  obtain ⟨h1, _, h3⟩ := Lgs.at ho (all9 hs)
  have hl : (List.replicate ts.length ovp).length = ts.length := List.length_replicate
  refine ⟨⟨_, cap, by rw [hl], ⟨by omega, fun e => by cases e⟩, .inr ⟨g, 0, rfl, fun i t ht => ?_⟩⟩, by omega⟩
  have hil := (List.getElem?_eq_some_iff.1 ht).1
  rw [hl] at hil
  have e : t = ovp := List.eq_of_mem_replicate (List.mem_of_getElem? ht)
  subst e
  refine ⟨ovT, ovp_tpi _, fun j u hu => ?_⟩
  rw [Nat.zero_add]
  exact h1 i ovT (hv i hil) j u hu
set_option maxRecDepth 1000000 in
set_option maxHeartbeats 2000000 in
theorem overTs_any {w : World} {B g cap : Nat} {L : List (Array Value)} {ts : List Tp} {A E : Nat → Nat} (h : Ltr w B g cap L ts A E) : Calls Tryz.prog 12 #[.slice (some ⟨g, 0, none⟩) ts.length cap] w fun e w' => e = .returned (.tuple #[]) ∧ Hid (TSl w' (.slice (some ⟨g, 0, none⟩) ts.length cap) (List.replicate ts.length ovp) ∧ Kp (fun q => B ≤ q) w w') := by
  have HH := hide h
  have hm := h.m
  clear h
  have HI := hide infoTp
  have HA : Hid (∀ w, (isAgg 45).run Tryz.prog w = .ok true w) := aggTp
  go_enter Tryz.func12, Tryz.ntmps12
  go_wp2_with fail
  go_loopw [2] (fun ii wr => ∃ k : Nat, k ≤ ts.length ∧ ii = .int .i64 (k : Nat) ∧ Hid (Ovt w wr B g cap L ts A E k)) (fun ii _ => ts.length - (intOf ii).toNat)
  case atStart => exact ⟨0, by omega, rfl, Ovt.start HH.out⟩
  case round =>
    rename World => wr
    obtain ⟨k, hk, rfl, HV⟩ := hrel
    by_cases hlt : k < ts.length
    · have g1 : (k : Int) < (ts.length : Int) := by omega
      obtain ⟨t, ht⟩ : ∃ t, ts[k]? = some t := ⟨ts[k], List.getElem?_eq_getElem hlt⟩
      obtain ⟨c, hc⟩ : ∃ c, L[k]? = some c := ⟨L[k]'(by rw [HH.out.n]; exact hlt), List.getElem?_eq_getElem _⟩
      obtain ⟨L1, ho, hn, hs, he, -⟩ := HV.out.o
      have ho2 := ho
      rw [← hn] at ho2
      have HCC : Hid (∀ j x, c[j]? = some x → wr.cell? ⟨g, k * 9 + j, none⟩ = some x) := fun j x hx => (Lgs.at ho2 (all9 hs)).1 k c (by rw [he k (Nat.le_refl _)]; exact hc) j x hx
      have HCS : Hid (c.size = 9) := HH.out.z c (List.mem_of_getElem? hc)
      have HCA := hide (overT_any (HV.out.v k t c (Nat.le_refl _) ht hc))
      obtain ⟨cur, hcur, hcz⟩ := own_cur ho
      have HCU := hide hcur
      have hcz2 : k * 9 + 9 ≤ cur.size := by omega
      clear ht hc ho ho2 hn hs he hcur hcz L1
      go_wp2_with (refine wpList_aggAt rfl rfl HI.out HA.out g (k * 9) c rfl HCS.out HCC.out ?_)
      refine HCA.out.mono ?_
      rintro e w5 ⟨rfl, hk5⟩
      have hab := HH.out.a k hlt
      have hoi := HH.out.g k hlt
      have hcur5 : w5.heap[g]? = some (.cells cur 45 (0, 0)) := (hk5.block _ (blk_lt HCU.out) (fun e => by omega)).trans HCU.out
      have HST : Hid (∀ w6 : World, w6.heap[g]? = some (.cells (splice cur.toList (k * 9) ovT.toList).toArray 45 (0, 0)) → Kp (fun q => q = g) w5 w6 → Ovt w w6 B g cap L ts A E (k + 1)) := fun w6 h6 hk6 => HV.out.step HH.out hlt hk5 hcur5 h6 hk6
      have HC5 : Hid (w5.heap[g]? = some (.cells cur.toList.toArray 45 (0, 0))) := hcur5
      have HLT : Hid (k * 9 + 9 ≤ cur.toList.length) := by show _ ≤ _; rw [Array.length_toList]; exact hcz2
      clear hk5 HCU hcz2 hab hoi hcur5 HCA HCC HV
      go_wp2_with (refine wpList_storePart rfl rfl g (k * 9) cur.toList ovT.toList 45 rfl rfl HC5.out infoTp HLT.out ovT_one ?_)
      intro w6 h6 hk6
      have HI6 := hide (HST.out w6 h6.out hk6.out)
      clear h6 hk6 HST
      go_wp2_with fail
      go_roundw
      case rel => exact ⟨k + 1, by omega, by go_num, HI6⟩
      case measure => simp [intOf]; omega
    · have g1 : ¬ (k : Int) < (ts.length : Int) := by omega
      have hkn : k = ts.length := by omega
      have HV2 : Hid (Ovt w wr B g cap L ts A E ts.length) := by rw [← hkn]; exact HV.out
      clear HV hkn
      go_wp2_with fail
      go_end0
      exact ⟨rfl, HV2.out.tsl hm, HV2.out.k⟩
end
end Go.Proofs.YtcmfgambfgebfaaGreatDoor
