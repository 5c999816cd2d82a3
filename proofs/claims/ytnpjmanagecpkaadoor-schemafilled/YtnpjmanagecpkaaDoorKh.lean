import Derived.Test.YtnpjmanagecpkaaDoorKa
import Derived.Test.YtnpjmanagecpkaaDoorKb
import Derived.Test.YtnpjmanagecpkaaDoorKg
import Derived.Test.YtnpjmanagecpkaaDoorKe
namespace Go.Proofs.YtnpjmanagecpkaaDoor
section
open Go.RowKit Go

end
section
open Go.RowKit Go
/-! ### begun: the list that it asks about -/
def pnm : ByteArray := ⟨#[112, 97, 105, 114]⟩
def lnm : ByteArray := ⟨#[108, 111, 111, 112]⟩
def nnm : ByteArray := ⟨#[110, 111, 110, 101]⟩
def pfs : List Fd := [⟨⟨#[108, 101, 102, 116]⟩, ⟨#[108]⟩, ⟨⟨#[105, 110, 116]⟩, false⟩, false⟩, ⟨⟨#[114, 105, 103, 104, 116]⟩, ⟨#[114]⟩, ⟨⟨#[112, 97, 105, 114]⟩, true⟩, false⟩]
def prT (nm : ByteArray) : List Tp := [⟨pnm, 5, 0, 0, zrf, pfs, [], []⟩, ⟨lnm, 3, 1, 2, ⟨nm, false⟩, [], [], []⟩]
theorem pr_chk : chk11 (prT lnm) = (0, 0) := by decide +kernel
theorem pr_bad : chk11 (prT nnm) = (114, 1) := by decide +kernel
theorem pr_fnd : fnd (prT lnm) pnm = (⟨pnm, 5, 0, 0, zrf, pfs, [], []⟩, true) := by
  have h : plc (prT lnm) pnm = some 0 := by decide +kernel
  unfold fnd
  rw [h]
  rfl
theorem pr_shrt (nm : ByteArray) : Shrt (prT nm) := by
  intro t ht
  unfold prT at ht
  rcases List.mem_cons.1 ht with rfl | ht
  · simp [pfs]
  · rw [List.mem_singleton.1 ht]
    simp
theorem pas1_memL {L : List ByteArray} {t : Tp} {x : ByteArray} (h : x ∈ L) : x ∈ pas1 L t := by
  unfold pas1
  split
  · exact putL_mem.2 (.inr h)
  · exact h
theorem pas_memL : ∀ (ts : List Tp) (L : List ByteArray) (x : ByteArray), x ∈ L → x ∈ pas L ts
  | [], _, _, h => h
  | t :: r, L, x, h => pas_memL r (pas1 L t) x (pas1_memL h)
theorem itr_onm (l : List Tp) : ∀ (k : Nat) (x : ByteArray), x ∈ onm → x ∈ itr l k
  | 0, _, h => h
  | k + 1, x, h => pas_memL l (itr l k) x (itr_onm l k x h)
theorem pr_pair {k : Nat} (h : (itr (prT lnm) (k + 1)).length ≤ (itr (prT lnm) k).length) : memb (itr (prT lnm) (k + 1)) pnm = true := by
  refine memb_iff.2 ((itr_closed _ _ h).2 ⟨pnm, 5, 0, 0, zrf, pfs, [], []⟩ (List.mem_cons_self ..) ?_)
  exact rulb_mono (L := onm) (fun x hx => itr_onm _ _ x hx) (by decide +kernel)
theorem pr_loop (k : Nat) : memb (itr (prT lnm) k) lnm = false := by
  cases hm : memb (itr (prT lnm) k) lnm with
  | false => rfl
  | true =>
    have h := itr_least (prT lnm) (M := pnm :: onm) (fun x hx => List.mem_cons_of_mem _ hx) (fun t ht hr => ?_) k lnm (memb_iff.1 hm)
    · exact absurd (memb_iff.2 h) (by decide +kernel)
    · unfold prT at ht
      rcases List.mem_cons.1 ht with rfl | ht
      · exact List.mem_cons_self ..
      · rw [List.mem_singleton.1 ht] at hr
        exact absurd hr (by decide +kernel)
def pfc : Array Value := #[.string ⟨#[108, 101, 102, 116]⟩, .string ⟨#[108]⟩, .string ⟨#[105, 110, 116]⟩, .bool false, .bool false, .string ⟨#[114, 105, 103, 104, 116]⟩, .string ⟨#[114]⟩, .string ⟨#[112, 97, 105, 114]⟩, .bool true, .bool false]
def ptc (f : Nat) (nm : ByteArray) : Array Value := #[.string ⟨#[112, 97, 105, 114]⟩, .int .i64 5, .int .i64 0, .int .i64 0, .string ⟨#[]⟩, .bool false, .slice (some ⟨f, 0, none⟩) 2 2, .slice none 0 0, .slice none 0 0, .string ⟨#[108, 111, 111, 112]⟩, .int .i64 3, .int .i64 1, .int .i64 2, .string nm, .bool false, .slice none 0 0, .slice none 0 0, .slice none 0 0]
theorem ssl_nil (w : World) : SSl w (.slice none 0 0) [] := ⟨⟨none, 0, rfl, ⟨Nat.le_refl _, fun _ => rfl⟩, .inl rfl⟩, Nat.zero_le _, fun _ h => by cases h⟩
/-- The list in memory. -/
structure Prw (w : World) (f g : Nat) (nm : ByteArray) : Prop where
  hf : w.heap[f]? = some (.cells pfc 46 (0, 0))
  hg : w.heap[g]? = some (.cells (ptc f nm) 29 (0, 0))
  n : f ≠ g
theorem Prw.next {w w' : World} {f g : Nat} {nm : ByteArray} (h : Prw w f g nm) (hb : Below w.heap.size w w') : Prw w' f g nm := ⟨(hb.block _ (blk_lt h.hf)).trans h.hf, (hb.block _ (blk_lt h.hg)).trans h.hg, h.n⟩
theorem Prw.set {w : World} {f g : Nat} {nm nm' : ByteArray} (h : Prw w f g nm) : Prw (w.setCell ⟨g, 13, none⟩ (.string nm')) f g nm' := ⟨blk_other 13 _ h.hf h.n, blk_set 13 _ h.hg, h.n⟩
theorem Prw.tsl {w : World} {f g : Nat} {nm : ByteArray} (h : Prw w f g nm) (hn : nm.size ≤ 140737488351232) : TSl w (.slice (some ⟨g, 0, none⟩) 2 2) (prT nm) := by
  have hF : FSl w (.slice (some ⟨f, 0, none⟩) 2 2) pfs := by
    refine ⟨⟨some ⟨f, 0, none⟩, 2, rfl, ⟨Nat.le_refl _, fun e => by cases e⟩, .inr ⟨f, 0, rfl, fun i x hi => ?_⟩⟩, by decide⟩
    rcases i with _ | _ | i
    · have e : x = ⟨⟨#[108, 101, 102, 116]⟩, ⟨#[108]⟩, ⟨⟨#[105, 110, 116]⟩, false⟩, false⟩ := (Option.some.inj hi).symm
      subst e
      refine ⟨_, ⟨rfl, by decide, by decide, by decide⟩, fun j u hj => ?_⟩
      rcases j with _ | _ | _ | _ | _ | j
      all_goals first
        | exact blk_cell h.hf hj
        | (exact absurd hj (by simp [fdc]))
    · have e : x = ⟨⟨#[114, 105, 103, 104, 116]⟩, ⟨#[114]⟩, ⟨⟨#[112, 97, 105, 114]⟩, true⟩, false⟩ := (Option.some.inj hi).symm
      subst e
      refine ⟨_, ⟨rfl, by decide, by decide, by decide⟩, fun j u hj => ?_⟩
      rcases j with _ | _ | _ | _ | _ | j
      all_goals first
        | exact blk_cell h.hf hj
        | (exact absurd hj (by simp [fdc]))
    · simp [pfs] at hi
  refine ⟨⟨some ⟨g, 0, none⟩, 2, rfl, ⟨Nat.le_refl _, fun e => by cases e⟩, .inr ⟨g, 0, rfl, fun i x hi => ?_⟩⟩, by simp [prT]⟩
  rcases i with _ | _ | i
  · have e : x = ⟨pnm, 5, 0, 0, zrf, pfs, [], []⟩ := (Option.some.inj hi).symm
    subst e
    refine ⟨_, ⟨⟨_, _, _, rfl, hF, GSl.nil, ssl_nil w⟩, ⟨by decide, by decide, by decide, by decide, by decide⟩⟩, fun j u hj => ?_⟩
    rcases j with _ | _ | _ | _ | _ | _ | _ | _ | _ | j
    all_goals first
      | exact blk_cell h.hg hj
      | (exact absurd hj (by simp [tpc]))
  · have e : x = ⟨lnm, 3, 1, 2, ⟨nm, false⟩, [], [], []⟩ := (Option.some.inj hi).symm
    subst e
    refine ⟨_, ⟨⟨_, _, _, rfl, GSl.nil, GSl.nil, ssl_nil w⟩, ⟨(by decide : lnm.size ≤ 140737488351232), hn, (by decide : -9223372036854775808 ≤ (3 : Int) ∧ (3 : Int) ≤ 9223372036854775807), (by decide : -9223372036854775808 ≤ (1 : Int) ∧ (1 : Int) ≤ 9223372036854775807), (by decide : -9223372036854775808 ≤ (2 : Int) ∧ (2 : Int) ≤ 9223372036854775807)⟩⟩, fun j u hj => ?_⟩
    rcases j with _ | _ | _ | _ | _ | _ | _ | _ | _ | j
    all_goals first
      | exact blk_cell h.hg hj
      | (exact absurd hj (by simp [tpc]))
  · simp [prT] at hi
theorem alloc4_at (w : World) (o1 o2 o3 o4 : Obj) : ((((w.alloc o1).alloc o2).alloc o3).alloc o4).heap[w.heap.size + 1 + 1]? = some o3 ∧ ((((w.alloc o1).alloc o2).alloc o3).alloc o4).heap[w.heap.size + 1 + 1 + 1]? = some o4 ∧ Below w.heap.size w ((((w.alloc o1).alloc o2).alloc o3).alloc o4) := by
  have e1 : (w.alloc o1).heap.size = w.heap.size + 1 := by simp
  have e2 : ((w.alloc o1).alloc o2).heap.size = w.heap.size + 1 + 1 := by rw [← e1]; simp
  have e3 : (((w.alloc o1).alloc o2).alloc o3).heap.size = w.heap.size + 1 + 1 + 1 := by rw [← e2]; simp
  have h3 := heap_alloc_new ((w.alloc o1).alloc o2) o3
  have h4 := heap_alloc_new (((w.alloc o1).alloc o2).alloc o3) o4
  rw [e2] at h3
  rw [e3] at h4
  exact ⟨blk_alloc _ h3, h4, (((below_alloc4 w o1).alloc (by omega) _).alloc (by omega) _).alloc (by omega) _⟩
set_option maxRecDepth 1000000 in
set_option maxHeartbeats 1000000 in
theorem pair_any (w : World) : Calls Tryd.prog 16 #[] w fun e w' => ∃ f g, e = .returned (.slice (some ⟨g, 0, none⟩) 2 2) ∧ Hid (Prw w' f g lnm ∧ w.heap.size ≤ f ∧ w.heap.size ≤ g ∧ Below w.heap.size w w') := by
  go_enter Tryd.func16, Tryd.ntmps16
  go_wp2_with fail
  go_ret
  obtain ⟨h1, h2, h3⟩ := alloc4_at w (.cells #[.string ⟨#[108, 101, 102, 116]⟩, .string ⟨#[108]⟩, .string ⟨#[105, 110, 116]⟩, .bool false, .bool false] 46) (.cells #[.string ⟨#[114, 105, 103, 104, 116]⟩, .string ⟨#[114]⟩, .string ⟨#[112, 97, 105, 114]⟩, .bool true, .bool false] 46) (.cells pfc 46) (.cells (ptc (w.heap.size + 1 + 1) lnm) 29)
  exact ⟨w.heap.size + 1 + 1, w.heap.size + 1 + 1 + 1, rfl, ⟨h1, h2, by omega⟩, by omega, by omega, h3⟩
end
section
open Go.RowKit Go
set_option maxRecDepth 1000000 in
theorem num11_any (n : Int) (w : World) : Calls Tryd.prog 9 #[.int .i64 n] w fun e w' => e = .returned (.int .i64 n) ∧ w' = w := by
  go_enter Tryd.func9, Tryd.ntmps9
  go_wp2_with fail
  go_ret
  exact ⟨rfl, rfl⟩
theorem otb_kp {w wx wy : World} {g : Nat} (h : Otb w) (hb : Below w.heap.size w wx) (hg : w.heap.size ≤ g) (hk : Kp (fun q => q = g) wx wy) : Otb wy := ⟨fun j u hj => by
  have h1 := h.c j u hj
  have hlt := World.block_lt_of_cell? w _ h1
  refine hk.cell (keep_below hb _ _ h1) (fun e => ?_)
  have e' : 0 = g := e
  have hlt' : 0 < w.heap.size := hlt
  omega⟩
set_option maxRecDepth 1000000 in
set_option maxHeartbeats 4000000 in
theorem begun11_any (w : World) (hT : Tabs w) (hO : Otb w) : Calls Tryd.prog 5 #[] w fun e w' => e = .returned (.bool true) ∧ Below w.heap.size w w' := by
  have HT : Hid (∀ wy, Below w.heap.size w wy → Tabs wy) := fun wy hb => hT.next hb
  have HO : Hid (∀ wy, Below w.heap.size w wy → Otb wy) := fun wy hb => hO.next (keep_below hb)
  have HOT := hide hO
  have HNU := hide (fun n W => num11_any n W)
  clear hT hO
  go_enter Tryd.func5, Tryd.ntmps5
  go_wp2_with fail
  refine (pair_any w).mono ?_
  rintro e w1 ⟨f, g, rfl, hP⟩
  have HP1 := hide hP.out.1
  have HN := hide (And.intro hP.out.2.1 hP.out.2.2.1)
  have HB1 := hide hP.out.2.2.2
  have HC1 : Hid (Calls Tryd.prog 15 #[.slice (some ⟨g, 0, none⟩) 2 2] w1 fun e w' => e = .returned (.tuple #[.int .i64 0, .int .i64 0]) ∧ Below w1.heap.size w1 w') := by
    have h := check11_any w1 (HT.out w1 HB1.out) (HO.out w1 HB1.out) _ _ (HP1.out.tsl (by decide)) (pr_shrt _)
    rw [pr_chk] at h
    exact h
  clear hP
  go_wp2_with fail
  refine HC1.out.mono ?_
  rintro e w2 ⟨rfl, hb2⟩
  have HB2 : Hid (Below w.heap.size w w2) := HB1.out.trans (hb2.mono HB1.out.size)
  have HP2 := hide (HP1.out.next hb2)
  clear HC1 HP1 HB1 hb2
  have HC2 : Hid (Calls Tryd.prog 7 #[.slice (some ⟨g, 0, none⟩) 2 2] w2 fun e w' => ∃ t, e = .returned (.tuple #[.pointer (some ⟨t, 0, none⟩), .int .i64 0]) ∧ Hid (w2.heap.size ≤ t ∧ Tbm w' w2.heap.size t (prT lnm) 0 (.map none) ∧ Below w2.heap.size w2 w')) := by
    have h := open_any w2 (HT.out w2 HB2.out) (HO.out w2 HB2.out) _ _ (HP2.out.tsl (by decide)) (pr_shrt _)
    rw [pr_chk] at h
    refine h.mono ?_
    rintro e w' ⟨⟨vp, rfl, _, h2⟩, h3⟩
    obtain ⟨t, rfl, h4, h5⟩ := h2 rfl
    exact ⟨t, rfl, h4, h5, h3⟩
  go_wp2_with fail
  refine HC2.out.mono ?_
  rintro e w3 ⟨t, rfl, hP⟩
  have HTG := hide hP.out.1
  have HTB := hide hP.out.2.1
  have hb3 := hP.out.2.2
  have HB3 : Hid (Below w.heap.size w w3) := HB2.out.trans (hb3.mono HB2.out.size)
  have HP3 := hide (HP2.out.next hb3)
  have HGL : Hid (g < w2.heap.size) := blk_lt HP2.out.hg
  clear HC2 HP2 hP hb3
  go_wp2_with (first
    | (go_at_call 9
       refine (HNU.out _ _).mono ?_
       rintro e wq ⟨rfl, rfl⟩))
  have HC3 : Hid (Calls Tryd.prog 17 #[.pointer (some ⟨t, 0, none⟩), .string ⟨#[112, 97, 105, 114]⟩] wq fun e w' => ∃ c, e = .returned (.tuple #[.agg c, .bool true]) ∧ Hid (Tpi w' ⟨pnm, 5, 0, 0, zrf, pfs, [], []⟩ c ∧ Below wq.heap.size wq w')) := by
    have h := tfind_any wq (HO.out wq HB3.out) t (prT lnm) 0 (.map none) HTB.out.tbl (pr_shrt _) pnm (by decide)
    rw [pr_fnd] at h
    exact h
  refine HC3.out.mono ?_
  rintro e w4 ⟨c, rfl, hP⟩
  have hb4 := hP.out.2
  obtain ⟨⟨vf, vc, vw, hc, ⟨⟨af, cf, hvf, -, -⟩, -⟩, ⟨⟨ac, cc, hvc, -, -⟩, -⟩, ⟨⟨aw, cw, hvw, -, -⟩, -, -⟩⟩, -⟩ := hP.out.1
  subst hvf
  subst hvc
  subst hvw
  have hc' : c = #[.string ⟨#[112, 97, 105, 114]⟩, .int .i64 5, .int .i64 0, .int .i64 0, .string ⟨#[]⟩, .bool false, .slice af 2 cf, .slice ac 0 cc, .slice aw 0 cw] := hc
  clear hP hc HC3
  subst hc'
  have hb5 := below_alloc4 w4 (.cells #[.string ⟨#[112, 97, 105, 114]⟩, .int .i64 5, .int .i64 0, .int .i64 0, .string ⟨#[]⟩, .bool false, .slice af 2 cf, .slice ac 0 cc, .slice aw 0 cw] 29)
  have hx5 := heap_alloc_new w4 (.cells #[.string ⟨#[112, 97, 105, 114]⟩, .int .i64 5, .int .i64 0, .int .i64 0, .string ⟨#[]⟩, .bool false, .slice af 2 cf, .slice ac 0 cc, .slice aw 0 cw] 29)
  have hp5 := (HP3.out.next hb4).next hb5
  have g13 := blk_cell (j := 13) (v := .string lnm) hp5.hg rfl
  have z13 := blk_frozen 13 hp5.hg
  have hbx : Below w.heap.size w (w4.alloc (.cells #[.string ⟨#[112, 97, 105, 114]⟩, .int .i64 5, .int .i64 0, .int .i64 0, .string ⟨#[]⟩, .bool false, .slice af 2 cf, .slice ac 0 cc, .slice aw 0 cw] 29)) := (HB3.out.trans (hb4.mono HB3.out.size)).trans (hb5.mono (Nat.le_trans HB3.out.size hb4.size))
  have hkx : Kp (fun q => q = g) (w4.alloc (.cells #[.string ⟨#[112, 97, 105, 114]⟩, .int .i64 5, .int .i64 0, .int .i64 0, .string ⟨#[]⟩, .bool false, .slice af 2 cf, .slice ac 0 cc, .slice aw 0 cw] 29)) ((w4.alloc (.cells #[.string ⟨#[112, 97, 105, 114]⟩, .int .i64 5, .int .i64 0, .int .i64 0, .string ⟨#[]⟩, .bool false, .slice af 2 cf, .slice ac 0 cc, .slice aw 0 cw] 29)).setCell ⟨g, 13, none⟩ (.string ⟨#[110, 111, 110, 101]⟩)) := (Kp.refl (fun q => q = g) _).setCell _ _ (fun _ => rfl)
  have HP6 : Hid (Prw ((w4.alloc (.cells #[.string ⟨#[112, 97, 105, 114]⟩, .int .i64 5, .int .i64 0, .int .i64 0, .string ⟨#[]⟩, .bool false, .slice af 2 cf, .slice ac 0 cc, .slice aw 0 cw] 29)).setCell ⟨g, 13, none⟩ (.string ⟨#[110, 111, 110, 101]⟩)) f g nnm) := hp5.set
  have HB6 : Hid (Below w.heap.size w ((w4.alloc (.cells #[.string ⟨#[112, 97, 105, 114]⟩, .int .i64 5, .int .i64 0, .int .i64 0, .string ⟨#[]⟩, .bool false, .slice af 2 cf, .slice ac 0 cc, .slice aw 0 cw] 29)).setCell ⟨g, 13, none⟩ (.string ⟨#[110, 111, 110, 101]⟩))) := hbx.trans (hkx.below hbx.size (fun q e => by rw [e]; exact HN.out.2))
  have HTB6 : Hid (Tbm ((w4.alloc (.cells #[.string ⟨#[112, 97, 105, 114]⟩, .int .i64 5, .int .i64 0, .int .i64 0, .string ⟨#[]⟩, .bool false, .slice af 2 cf, .slice ac 0 cc, .slice aw 0 cw] 29)).setCell ⟨g, 13, none⟩ (.string ⟨#[110, 111, 110, 101]⟩)) w2.heap.size t (prT lnm) 0 (.map none)) := ((HTB.out.next hb4).next hb5).kp hkx (fun q e => by rw [e]; exact HGL.out) HTG.out
  have HX6 : Hid (((w4.alloc (.cells #[.string ⟨#[112, 97, 105, 114]⟩, .int .i64 5, .int .i64 0, .int .i64 0, .string ⟨#[]⟩, .bool false, .slice af 2 cf, .slice ac 0 cc, .slice aw 0 cw] 29)).setCell ⟨g, 13, none⟩ (.string ⟨#[110, 111, 110, 101]⟩)).heap[w4.heap.size]? = some (.cells #[.string ⟨#[112, 97, 105, 114]⟩, .int .i64 5, .int .i64 0, .int .i64 0, .string ⟨#[]⟩, .bool false, .slice af 2 cf, .slice ac 0 cc, .slice aw 0 cw] 29 (0, 0))) := blk_other 13 _ hx5 (fun e => by have h1 := blk_lt (HP3.out.next hb4).hg; omega)
  clear hb4 hb5 hx5 hp5 hbx hkx HTB HP3 HB3
  go_wp2_with fail
  clear g13 z13
  generalize (w4.alloc (.cells #[.string ⟨#[112, 97, 105, 114]⟩, .int .i64 5, .int .i64 0, .int .i64 0, .string ⟨#[]⟩, .bool false, .slice af 2 cf, .slice ac 0 cc, .slice aw 0 cw] 29)).setCell ⟨g, 13, none⟩ (.string ⟨#[110, 111, 110, 101]⟩) = w6 at *
  generalize w4.heap.size = x at *
  have HC4 : Hid (Calls Tryd.prog 15 #[.slice (some ⟨g, 0, none⟩) 2 2] w6 fun e w' => e = .returned (.tuple #[.int .i64 114, .int .i64 1]) ∧ Below w6.heap.size w6 w') := by
    have h := check11_any w6 (HT.out w6 HB6.out) (HO.out w6 HB6.out) _ _ (HP6.out.tsl (by decide)) (pr_shrt _)
    rw [pr_bad] at h
    exact h
  refine HC4.out.mono ?_
  rintro e w7 ⟨rfl, hb7⟩
  have HB7 : Hid (Below w.heap.size w w7) := HB6.out.trans (hb7.mono HB6.out.size)
  have x1 : w7.cell? ⟨x, 1, none⟩ = some (.int .i64 5) := blk_cell (j := 1) ((hb7.block _ (blk_lt HX6.out)).trans HX6.out) rfl
  obtain ⟨vt, B, hq1, hq2⟩ := (HTB6.out.next hb7).e
  have hwt : w.heap.size ≤ t := Nat.le_trans HB2.out.size HTG.out
  have HC5 : Hid (Calls Tryd.prog 10 #[.pointer (some ⟨t, 0, none⟩), .string ⟨#[112, 97, 105, 114]⟩] w7 fun e w' => e = .returned (.bool true) ∧ Hid (Below w.heap.size w w' ∧ Calls Tryd.prog 10 #[.pointer (some ⟨t, 0, none⟩), .string ⟨#[108, 111, 111, 112]⟩] w' fun e w'' => e = .returned (.bool false) ∧ Below w.heap.size w w'')) := by
    refine (tfilled_first w7 t vt B (prT lnm) (.map none) pnm (by decide) hq1 (fun wy hk => (hq2 wy (hk.mono (fun _ _ e => .inr e))).t) (fun wy hk => otb_kp HOT.out HB7.out hwt hk) (by decide)).mono ?_
    rintro e w8 ⟨M, k, rfl, hP⟩
    obtain ⟨h1, ⟨n, h2⟩, h3, h4, _⟩ := hP.out
    have hb8 : Below w.heap.size w w8 := HB7.out.trans (h4.below HB7.out.size (fun q e => by rw [e]; exact hwt))
    refine ⟨by rw [pr_pair h1], hb8, (tfilled_again w8 t vt B M n _ lnm (by decide) h3 h2).mono ?_⟩
    rintro e w9 ⟨rfl, hb9⟩
    exact ⟨by rw [pr_loop], hb8.trans (hb9.mono hb8.size)⟩
  clear HC4 HX6 HTB6 HP6 hb7 hq1 hq2 hwt HB6 HO HT HOT HN HTG HGL HB2 HB7
  go_wp2_with fail
  refine HC5.out.mono ?_
  rintro e w8 ⟨rfl, hP⟩
  clear HC5 x1
  go_wp2_with fail
  refine hP.out.2.mono ?_
  rintro e w9 ⟨rfl, hb9⟩
  have HB9 := hide hb9
  clear hb9 hP
  go_wp2_with (first
    | (go_at_call 9
       refine (HNU.out _ _).mono ?_
       rintro e wz ⟨rfl, rfl⟩))
  go_ret
  exact ⟨rfl, HB9.out⟩
end
section
open Go.RowKit Go
/-! ### has -/
theorem memb_take_no {L : List ByteArray} {s : ByteArray} {j : Nat} (h : ∀ i t, i < j → L[i]? = some t → t ≠ s) (hj : L.length ≤ j) : memb L s = false := by
  cases hm : memb L s with
  | false => rfl
  | true =>
    obtain ⟨i, hi, e⟩ := List.getElem_of_mem (memb_iff.1 hm)
    exact absurd e (h i _ (by omega) (List.getElem?_eq_getElem hi))
set_option maxRecDepth 1000000 in
set_option maxHeartbeats 1000000 in
theorem has_any (w : World) (v : Value) (L : List ByteArray) (hv : SSl w v L) (s : ByteArray) : Calls Tryd.prog 13 #[v, .string s] w fun e w' => e = .returned (.bool (memb L s)) ∧ w' = w := by
  have hmax := hv.max
  obtain ⟨⟨a, cap, rfl, hn, hc⟩, _, _⟩ := hv
  have HC := hide hc
  clear hc hn
  go_enter Tryd.func13, Tryd.ntmps13
  go_wp2_with fail
  go_loopw [5] (fun vi wx => ∃ i : Nat, i ≤ L.length ∧ vi = .int .i64 (i : Nat) ∧ wx = w ∧ Hid (∀ j t, j < i → L[j]? = some t → t ≠ s)) (fun vi _ => L.length - (intOf vi).toNat)
  case atStart => exact ⟨0, by omega, rfl, rfl, fun j _ hj => absurd hj (by omega)⟩
  case round =>
    obtain ⟨i, hi, rfl, hw, HN⟩ := hrel
    subst hw
    by_cases hlt : i < L.length
    · have g1 : (i : Int) < (L.length : Int) := by omega
      obtain ⟨b, off, rfl, hcc⟩ := HC.out.resolve_left (fun h => by rw [h] at hlt; simp at hlt)
      obtain ⟨t, ht⟩ : ∃ t, L[i]? = some t := ⟨_, List.getElem?_eq_getElem hlt⟩
      have q1 := hcc i t ht
      have HT := hide ht
      have HM := hide (List.mem_of_getElem? ht)
      clear ht hcc HC
      by_cases he : t = s
      · subst he
        have e1 := str_yes t
        have HR : Hid (memb L t = true) := memb_iff.2 HM.out
        go_wp2_with fail
        go_ret
        exact ⟨by rw [HR.out]; rfl, rfl⟩
      · have e1 := str_no he
        have HN2 : Hid (∀ j u, j < i + 1 → L[j]? = some u → u ≠ s) := fun j u hj hu => by
          by_cases e : j = i
          · subst e
            rw [HT.out] at hu
            rw [← Option.some.inj hu]
            exact he
          · exact HN.out j u (by omega) hu
        clear HN he
        go_wp2_with fail
        go_roundw
        case rel => exact ⟨i + 1, by omega, by go_num, trivial, HN2⟩
        case measure => simp [intOf]; omega
    · have g1 : ¬ (i : Int) < (L.length : Int) := by omega
      have HR := hide (memb_take_no HN.out (by omega))
      go_wp2_with fail
      go_ret
      exact ⟨by rw [HR.out]; rfl, rfl⟩
end
section
open Go.RowKit Go
/-! ### can -/
theorem rulb_1 {L : List ByteArray} {t : Tp} (h : t.k = 1) : rulb L t = (t.r.z || memb L t.r.n) := by
  unfold rulb lck
  rw [if_pos h]
  cases t.r.z <;> cases memb L t.r.n <;> rfl
theorem rulb_3 {L : List ByteArray} {t : Tp} (h : t.k = 3 ∨ t.k = 4) : rulb L t = (decide (t.lo = 0) || t.r.z || memb L t.r.n) := by
  unfold rulb lck
  rw [if_neg (by omega), if_pos h]
  cases t.r.z <;> cases memb L t.r.n <;> cases decide (t.lo = 0) <;> rfl
theorem rulb_5 {L : List ByteArray} {t : Tp} (h : t.k = 5 ∨ t.k = 6) : rulb L t = !t.fs.any fun f => !f.m && (!f.r.z && !memb L f.r.n) := by
  unfold rulb lck
  rw [if_neg (by omega), if_neg (by omega), if_pos h]
theorem rulb_7 {L : List ByteArray} {t : Tp} (h : t.k = 7 ∨ t.k = 8) : rulb L t = t.cs.any fun c => memb L c.n := by
  unfold rulb
  rw [if_neg (by omega), if_neg (by omega), if_neg (by omega), if_pos h]
theorem rulb_0 {L : List ByteArray} {t : Tp} (h1 : t.k ≠ 1) (h2 : ¬ (t.k = 3 ∨ t.k = 4)) (h3 : ¬ (t.k = 5 ∨ t.k = 6)) (h4 : ¬ (t.k = 7 ∨ t.k = 8)) : rulb L t = true := by
  unfold rulb
  rw [if_neg h1, if_neg h2, if_neg h3, if_neg h4]
theorem any_hit {α : Type} {f : α → Bool} {l : List α} {i : Nat} {x : α} (h : l[i]? = some x) (hf : f x = true) : l.any f = true := List.any_eq_true.2 ⟨x, List.mem_of_getElem? h, hf⟩
theorem any_no {α : Type} {f : α → Bool} {l : List α} {j : Nat} (h : ∀ i x, i < j → l[i]? = some x → f x = false) (hj : l.length ≤ j) : l.any f = false := by
  rw [List.any_eq_false]
  intro x hx he
  obtain ⟨i, hi, e⟩ := List.getElem_of_mem hx
  have := h i x (by omega) (by rw [List.getElem?_eq_getElem hi, e])
  rw [this] at he
  cases he
set_option maxRecDepth 1000000 in
set_option maxHeartbeats 4000000 in
theorem can_any (w : World) (v : Value) (L : List ByteArray) (hv : SSl w v L) (t : Tp) (c : Array Value) (hc : Tpi w t c) : Calls Tryd.prog 12 #[v, .agg c] w fun e w' => e = .returned (.bool (rulb L t)) ∧ Below w.heap.size w w' := by
  have hK := hc.b.k
  have hLO := hc.b.lo
  obtain ⟨⟨vf, vc, vw, rfl, ⟨⟨af, cf, rfl, -, hF⟩, hFm⟩, ⟨⟨ac, cc, rfl, -, hC⟩, hCm⟩, ⟨⟨aw, cw, rfl, -, -⟩, -, -⟩⟩, -⟩ := hc
  unfold tpc
  have HBL := hide (below_alloc4 w (.cells #[.string t.n, .int .i64 t.k, .int .i64 t.lo, .int .i64 t.hi, .string t.r.n, .bool t.r.z, .slice af t.fs.length cf, .slice ac t.cs.length cc, .slice aw t.ws.length cw] 29))
  have HX := hide (heap_alloc_new w (.cells #[.string t.n, .int .i64 t.k, .int .i64 t.lo, .int .i64 t.hi, .string t.r.n, .bool t.r.z, .slice af t.fs.length cf, .slice ac t.cs.length cc, .slice aw t.ws.length cw] 29))
  have HV := hide (hv.move (keep_below HBL.out))
  have HF : Hid (t.fs = [] ∨ ∃ b off, af = some ⟨b, off, none⟩ ∧ ∀ i x, t.fs[i]? = some x → ∀ j u, (fdc x)[j]? = some u → (w.alloc (.cells #[.string t.n, .int .i64 t.k, .int .i64 t.lo, .int .i64 t.hi, .string t.r.n, .bool t.r.z, .slice af t.fs.length cf, .slice ac t.cs.length cc, .slice aw t.ws.length cw] 29)).cell? ⟨b, off + i * 5 + j, none⟩ = some u) := hF.imp id (fun ⟨b, off, h1, h2⟩ => ⟨b, off, h1, fun i x hi j u hj => by
    obtain ⟨d, h3, h4⟩ := h2 i x hi
    rw [← h3.1] at hj
    exact keep_below HBL.out _ _ (h4 j u hj)⟩)
  have HCC : Hid (t.cs = [] ∨ ∃ b off, ac = some ⟨b, off, none⟩ ∧ ∀ i x, t.cs[i]? = some x → ∀ j u, (czc x)[j]? = some u → (w.alloc (.cells #[.string t.n, .int .i64 t.k, .int .i64 t.lo, .int .i64 t.hi, .string t.r.n, .bool t.r.z, .slice af t.fs.length cf, .slice ac t.cs.length cc, .slice aw t.ws.length cw] 29)).cell? ⟨b, off + i * 2 + j, none⟩ = some u) := hC.imp id (fun ⟨b, off, h1, h2⟩ => ⟨b, off, h1, fun i x hi j u hj => by
    obtain ⟨d, h3, h4⟩ := h2 i x hi
    rw [← h3.1] at hj
    exact keep_below HBL.out _ _ (h4 j u hj)⟩)
  obtain ⟨⟨al, cl, rfl, -, -⟩, -, -⟩ := hv
  clear hF hC
  have HHA : Hid (∀ s, Calls Tryd.prog 13 #[.slice al L.length cl, .string s] (w.alloc (.cells #[.string t.n, .int .i64 t.k, .int .i64 t.lo, .int .i64 t.hi, .string t.r.n, .bool t.r.z, .slice af t.fs.length cf, .slice ac t.cs.length cc, .slice aw t.ws.length cw] 29)) fun e w' => e = .returned (.bool (memb L s)) ∧ w' = (w.alloc (.cells #[.string t.n, .int .i64 t.k, .int .i64 t.lo, .int .i64 t.hi, .string t.r.n, .bool t.r.z, .slice af t.fs.length cf, .slice ac t.cs.length cc, .slice aw t.ws.length cw] 29))) := fun s => has_any _ _ L HV.out s
  have k1 := blk_cell (j := 1) HX.out rfl
  have k2 := blk_cell (j := 2) HX.out rfl
  have k4 := blk_cell (j := 4) HX.out rfl
  have k5 := blk_cell (j := 5) HX.out rfl
  have k6 := blk_cell (j := 6) HX.out rfl
  have k7 := blk_cell (j := 7) HX.out rfl
  have HK := hide hK
  clear hK hLO HX HV
  go_enter Tryd.func12, Tryd.ntmps12
  go_upto_region 1 with fail
  generalize w.alloc (.cells #[.string t.n, .int .i64 t.k, .int .i64 t.lo, .int .i64 t.hi, .string t.r.n, .bool t.r.z, .slice af t.fs.length cf, .slice ac t.cs.length cc, .slice aw t.ws.length cw] 29) = w1 at *
  by_cases h1 : t.k = 1
  · have g1 : (t.k == 1) = true := by rw [h1]; rfl
    have HR := hide (rulb_1 (L := L) h1)
    clear h1 HF HCC
    cases hz : t.r.z with
    | true =>
      rw [hz] at k5 HR
      clear hz
      go_wp2_with fail
      go_ret
      exact ⟨by rw [HR.out]; rfl, HBL.out⟩
    | false =>
      rw [hz] at k5 HR
      clear hz
      go_wp2_with fail
      refine (HHA.out _).mono ?_
      rintro e w2 ⟨rfl, rfl⟩
      go_wp2_with fail
      go_ret
      exact ⟨by rw [HR.out]; rfl, HBL.out⟩
  have g1 : (t.k == 1) = false := beq_eq_false_iff_ne.2 h1
  by_cases h3 : t.k = 3 ∨ t.k = 4
  · have HR := hide (rulb_3 (L := L) h3)
    have g3 : (t.k == 3) = true ∨ ((t.k == 3) = false ∧ (t.k == 4) = true) := by
      rcases h3 with h3 | h3
      · exact .inl (by rw [h3]; rfl)
      · exact .inr ⟨by rw [h3]; rfl, by rw [h3]; rfl⟩
    clear h3 h1 HF HCC HK
    rcases g3 with g3 | ⟨g3, g4⟩
    all_goals
      by_cases hl : t.lo = 0
      · have gl : (t.lo == 0) = true := by rw [hl]; rfl
        rw [decide_eq_true hl] at HR
        clear hl
        go_wp2_with fail
        go_ret
        exact ⟨by rw [HR.out]; rfl, HBL.out⟩
      · have gl : (t.lo == 0) = false := beq_eq_false_iff_ne.2 hl
        rw [decide_eq_false hl] at HR
        clear hl
        cases hz : t.r.z with
        | true =>
          rw [hz] at k5 HR
          clear hz
          go_wp2_with fail
          go_ret
          exact ⟨by rw [HR.out]; rfl, HBL.out⟩
        | false =>
          rw [hz] at k5 HR
          clear hz
          go_wp2_with fail
          refine (HHA.out _).mono ?_
          rintro e w2 ⟨rfl, rfl⟩
          go_wp2_with fail
          go_ret
          exact ⟨by rw [HR.out]; rfl, HBL.out⟩
  have g3 : (t.k == 3) = false := beq_eq_false_iff_ne.2 (fun e => h3 (.inl e))
  have g4 : (t.k == 4) = false := beq_eq_false_iff_ne.2 (fun e => h3 (.inr e))
  by_cases h5 : t.k = 5 ∨ t.k = 6
  · have HR0 := hide (rulb_5 (L := L) h5)
    have g5 : (t.k == 5) = true ∨ ((t.k == 5) = false ∧ (t.k == 6) = true) := by
      rcases h5 with h5 | h5
      · exact .inl (by rw [h5]; rfl)
      · exact .inr ⟨by rw [h5]; rfl, by rw [h5]; rfl⟩
    clear h5 h3 h1 HCC HK
    rcases g5 with g5 | ⟨g5, g6⟩
    all_goals
      go_wp2_with fail
      go_loopw [5] (fun vi wx => ∃ i : Nat, i ≤ t.fs.length ∧ vi = .int .i64 (i : Nat) ∧ wx = w1 ∧ Hid (∀ j x, j < i → t.fs[j]? = some x → (!x.m && (!x.r.z && !memb L x.r.n)) = false)) (fun vi _ => t.fs.length - (intOf vi).toNat)
      case atStart => exact ⟨0, by omega, rfl, rfl, fun j _ hj => absurd hj (by omega)⟩
      case round =>
        obtain ⟨i, hi, rfl, hw, HN⟩ := hrel
        subst hw
        by_cases hlt : i < t.fs.length
        · have gi : (i : Int) < (t.fs.length : Int) := by omega
          obtain ⟨b, off, rfl, hcc⟩ := HF.out.resolve_left (fun h => by rw [h] at hlt; simp at hlt)
          obtain ⟨x, hx⟩ : ∃ x, t.fs[i]? = some x := ⟨_, List.getElem?_eq_getElem hlt⟩
          have q2 := hcc i x hx 2 (.string x.r.n) rfl
          have q3 := hcc i x hx 3 (.bool x.r.z) rfl
          have q4 := hcc i x hx 4 (.bool x.m) rfl
          have HXI := hide hx
          have HN2 : (!x.m && (!x.r.z && !memb L x.r.n)) = false → Hid (∀ j y, j < i + 1 → t.fs[j]? = some y → (!y.m && (!y.r.z && !memb L y.r.n)) = false) := fun h j y hj hy => by
            by_cases e : j = i
            · subst e
              rw [HXI.out] at hy
              rw [← Option.some.inj hy]
              exact h
            · exact HN.out j y (by omega) hy
          have HN3 := hide HN2
          clear hx hcc HF HN HN2
          cases hm : x.m with
          | true =>
            have HN4 := hide (HN3.out (by rw [hm]; rfl))
            rw [hm] at q4
            clear hm HN3
            go_wp2_with fail
            go_roundw
            case rel => exact ⟨i + 1, by omega, by go_num, trivial, HN4.out⟩
            case measure => simp [intOf]; omega
          | false =>
            rw [hm] at q4
            cases hz : x.r.z with
            | true =>
              have HN4 := hide (HN3.out (by rw [hz]; simp))
              rw [hz] at q3
              clear hm hz HN3
              go_wp2_with fail
              go_roundw
              case rel => exact ⟨i + 1, by omega, by go_num, trivial, HN4.out⟩
              case measure => simp [intOf]; omega
            | false =>
              rw [hz] at q3
              have HMZ := hide (And.intro hm hz)
              clear hm hz
              go_wp2_with fail
              refine (HHA.out _).mono ?_
              rintro e w2 ⟨rfl, rfl⟩
              cases hb : memb L x.r.n with
              | true =>
                have HN4 := hide (HN3.out (by rw [hb]; simp))
                clear hb HN3
                go_wp2_with fail
                go_roundw
                case rel => exact ⟨i + 1, by omega, by go_num, trivial, HN4.out⟩
                case measure => simp [intOf]; omega
              | false =>
                have HR : Hid (rulb L t = false) := by
                  show _ = _
                  rw [HR0.out, any_hit HXI.out (by rw [HMZ.out.1, HMZ.out.2, hb]; rfl)]
                  rfl
                clear hb HN3
                go_wp2_with fail
                go_ret
                exact ⟨by rw [HR.out]; rfl, HBL.out⟩
        · have gi : ¬ (i : Int) < (t.fs.length : Int) := by omega
          have HR : Hid (rulb L t = true) := by
            show _ = _
            rw [HR0.out, any_no HN.out (by omega)]
            rfl
          go_wp2_with fail
          go_ret
          exact ⟨by rw [HR.out]; rfl, HBL.out⟩
  have g5 : (t.k == 5) = false := beq_eq_false_iff_ne.2 (fun e => h5 (.inl e))
  have g6 : (t.k == 6) = false := beq_eq_false_iff_ne.2 (fun e => h5 (.inr e))
  by_cases h7 : t.k = 7 ∨ t.k = 8
  · have HR0 := hide (rulb_7 (L := L) h7)
    have g7 : (t.k == 7) = true ∨ ((t.k == 7) = false ∧ (t.k == 8) = true) := by
      rcases h7 with h7 | h7
      · exact .inl (by rw [h7]; rfl)
      · exact .inr ⟨by rw [h7]; rfl, by rw [h7]; rfl⟩
    clear h7 h5 h3 h1 HF HK
    rcases g7 with g7 | ⟨g7, g8⟩
    all_goals
      go_wp2_with fail
      go_loopw [6] (fun vi wx => ∃ i : Nat, i ≤ t.cs.length ∧ vi = .int .i64 (i : Nat) ∧ wx = w1 ∧ Hid (∀ j x, j < i → t.cs[j]? = some x → memb L x.n = false)) (fun vi _ => t.cs.length - (intOf vi).toNat)
      case atStart => exact ⟨0, by omega, rfl, rfl, fun j _ hj => absurd hj (by omega)⟩
      case round =>
        obtain ⟨i, hi, rfl, hw, HN⟩ := hrel
        subst hw
        by_cases hlt : i < t.cs.length
        · have gi : (i : Int) < (t.cs.length : Int) := by omega
          obtain ⟨b, off, rfl, hcc⟩ := HCC.out.resolve_left (fun h => by rw [h] at hlt; simp at hlt)
          obtain ⟨x, hx⟩ : ∃ x, t.cs[i]? = some x := ⟨_, List.getElem?_eq_getElem hlt⟩
          have q1 := hcc i x hx 1 (.string x.n) rfl
          have HXI := hide hx
          have HN2 : memb L x.n = false → Hid (∀ j y, j < i + 1 → t.cs[j]? = some y → memb L y.n = false) := fun h j y hj hy => by
            by_cases e : j = i
            · subst e
              rw [HXI.out] at hy
              rw [← Option.some.inj hy]
              exact h
            · exact HN.out j y (by omega) hy
          have HN3 := hide HN2
          clear hx hcc HCC HN HN2
          go_wp2_with fail
          refine (HHA.out _).mono ?_
          rintro e w2 ⟨rfl, rfl⟩
          cases hb : memb L x.n with
          | true =>
            have HR : Hid (rulb L t = true) := by
              show _ = _
              rw [HR0.out, any_hit HXI.out hb]
            clear hb HN3
            go_wp2_with fail
            go_ret
            exact ⟨by rw [HR.out]; rfl, HBL.out⟩
          | false =>
            have HN4 := hide (HN3.out hb)
            clear hb HN3
            go_wp2_with fail
            go_roundw
            case rel => exact ⟨i + 1, by omega, by go_num, trivial, HN4.out⟩
            case measure => simp [intOf]; omega
        · have gi : ¬ (i : Int) < (t.cs.length : Int) := by omega
          have HR : Hid (rulb L t = false) := by
            show _ = _
            rw [HR0.out, any_no HN.out (by omega)]
          go_wp2_with fail
          go_ret
          exact ⟨by rw [HR.out]; rfl, HBL.out⟩
  have g7 : (t.k == 7) = false := beq_eq_false_iff_ne.2 (fun e => h7 (.inl e))
  have g8 : (t.k == 8) = false := beq_eq_false_iff_ne.2 (fun e => h7 (.inr e))
  have HR := hide (rulb_0 (L := L) h1 h3 h5 h7)
  clear h1 h3 h5 h7 HF HCC
  go_wp2_with fail
  go_ret
  exact ⟨by rw [HR.out]; rfl, HBL.out⟩
end
section
open Go.RowKit Go
/-! ### SchemaFilled, plainly -/
def own9 : List ByteArray := owns.map (·.1)
def fll (F : List ByteArray) (l : List Tp) : List ByteArray := (l.filter fun t => memb F t.n).map (·.n)
def frd1 (all A : List ByteArray) (t : Tp) : List ByteArray := if (memb all t.n && (!memb A t.n && rulb A t)) = true then A ++ [t.n] else A
def frd (all A : List ByteArray) (l : List Tp) : List ByteArray := l.foldl (frd1 all) A
def frds (all : List ByteArray) (l : List Tp) : Nat → List ByteArray
  | 0 => own9
  | n + 1 => frd all (frds all l n) l
theorem own9_nodup : own9.Nodup := by decide +kernel
theorem onm_own9 : ∀ x, x ∈ onm ↔ x ∈ own9 := by
  have h1 : (onm.all fun x => memb own9 x) = true := by decide +kernel
  have h2 : (own9.all fun x => memb onm x) = true := by decide +kernel
  intro x
  exact ⟨fun h => memb_iff.1 (List.all_eq_true.1 h1 x h), fun h => memb_iff.1 (List.all_eq_true.1 h2 x h)⟩
theorem own9_ownK {x : ByteArray} (h : x ∈ own9) : (ownK x).isSome = true := by
  have h1 : (own9.all fun x => (ownK x).isSome) = true := by decide +kernel
  exact List.all_eq_true.1 h1 x h
/-- What a list that may be has. -/
structure Gdl (l : List Tp) : Prop where
  own : ∀ t ∈ l, t.n ∉ own9
  one : ∀ (i j : Nat) (t u : Tp), l[i]? = some t → l[j]? = some u → t.n = u.n → i = j
theorem plc_first : ∀ (l : List Tp) (i : Nat) (t : Tp), l[i]? = some t → ∃ j, plc l t.n = some j ∧ j ≤ i ∧ ∃ u, l[j]? = some u ∧ u.n = t.n
  | [], _, _, h => by cases h
  | u :: r, 0, t, h => by
    have e : u = t := by simpa using h
    subst e
    exact ⟨0, by unfold plc; rw [if_pos rfl], Nat.le_refl _, u, rfl, rfl⟩
  | u :: r, i + 1, t, h => by
    by_cases e : u.n = t.n
    · exact ⟨0, by unfold plc; rw [if_pos e], by omega, u, rfl, e⟩
    · obtain ⟨j, h1, h2, x, h3, h4⟩ := plc_first r i t (by simpa using h)
      exact ⟨j + 1, by unfold plc; rw [if_neg e, h1]; rfl, by omega, x, by simpa using h3, h4⟩
theorem lk1_all {f : Nat → Tp → Nat} : ∀ (l : List Tp) (o : Nat), lk1 f o l = none → ∀ i t, l[i]? = some t → f (o + i) t = 0
  | [], _, _, _, _, h => by cases h
  | u :: r, o, h, i, t, ht => by
    unfold lk1 at h
    by_cases h0 : f o u = 0
    · rw [if_neg (fun e => e h0)] at h
      rcases i with _ | i
      · have e : u = t := by simpa using ht
        subst e
        exact h0
      · have := lk1_all r (o + 1) h i t (by simpa using ht)
        rw [show o + (i + 1) = o + 1 + i by omega]
        exact this
    · rw [if_pos h0] at h
      cases h
theorem chk_gdl {l : List Tp} (h : (chk11 l).1 = 0) : Gdl l ∧ l.length ≤ 64 := by
  have hlen : ¬ 64 < l.length := fun e => by
    rw [chk_many e] at h
    cases h
  have haln : ∀ i t, l[i]? = some t → aln l i t = 0 := fun i t ht => by
    have h1 : lk1 (aln l) 0 l = none := by
      cases hk : lk1 (aln l) 0 l with
      | none => rfl
      | some r =>
        unfold chk11 at h
        rw [if_neg hlen, hk] at h
        have : ∀ (l' : List Tp) (o : Nat), lk1 (aln l) o l' = some r → r.1 ≠ 0 := fun l' => by
          induction l' with
          | nil => intro o h; cases h
          | cons u q ih =>
            intro o h
            unfold lk1 at h
            by_cases h0 : aln l o u = 0
            · rw [if_neg (fun e => e h0)] at h
              exact ih _ h
            · rw [if_pos h0] at h
              have e := Option.some.inj h
              rw [← e]
              exact h0
        exact absurd h (this l 0 hk)
    have := lk1_all l 0 h1 i t ht
    rw [Nat.zero_add] at this
    exact this
  have hname : ∀ i t, l[i]? = some t → (ownK t.n).isSome = false ∧ ¬ (plc l t.n).getD 0 < i := fun i t ht => by
    have h1 := haln i t ht
    unfold aln at h1
    by_cases h2 : (!nbl t.n || (ownK t.n).isSome || decide ((plc l t.n).getD 0 < i)) = true
    · rw [if_pos h2] at h1
      cases h1
    · rw [Bool.or_eq_true, Bool.or_eq_true, not_or, not_or] at h2
      exact ⟨by simpa using h2.1.2, by simpa using h2.2⟩
  refine ⟨⟨fun t ht hm => ?_, fun i j t u hi hj e => ?_⟩, by omega⟩
  · obtain ⟨i, hi, e⟩ := List.getElem_of_mem ht
    have h1 := (hname i t (by rw [List.getElem?_eq_getElem hi, e])).1
    rw [own9_ownK hm] at h1
    cases h1
  · obtain ⟨a, ha, hai, x, hx, hxn⟩ := plc_first l i t hi
    have h1 := (hname i t hi).2
    have h2 := (hname j u hj).2
    rw [ha] at h1
    rw [← e, ha] at h2
    obtain ⟨b, hb, hbj, _⟩ := plc_first l j u hj
    rw [← e, ha] at hb
    have := Option.some.inj hb
    simp only [Option.getD_some] at h1 h2
    omega
theorem pas_why : ∀ (ts : List Tp) (L : List ByteArray) (x : ByteArray), x ∈ pas L ts → x ∈ L ∨ ∃ t ∈ ts, t.n = x ∧ rulb (pas L ts) t = true
  | [], _, _, h => .inl h
  | t :: r, L, x, h => by
    have e : pas L (t :: r) = pas (pas1 L t) r := rfl
    rw [e] at h ⊢
    rcases pas_why r (pas1 L t) x h with h1 | ⟨u, hu, hn, hr⟩
    · unfold pas1 at h1
      split at h1
      · next hr =>
        rcases putL_mem.1 h1 with rfl | h1
        · exact .inr ⟨t, List.mem_cons_self, rfl, rulb_mono (L := L) (fun y hy => pas_memL r _ y (pas1_memL hy)) hr⟩
        · exact .inl h1
      · exact .inl h1
    · exact .inr ⟨u, List.mem_cons_of_mem _ hu, hn, hr⟩
theorem itr_why (l : List Tp) : ∀ (k : Nat) (x : ByteArray), x ∈ itr l k → x ∈ onm ∨ ∃ t ∈ l, t.n = x ∧ rulb (itr l k) t = true
  | 0, _, h => .inl h
  | k + 1, x, h => by
    rcases pas_why l (itr l k) x h with h1 | h1
    · rcases itr_why l k x h1 with h2 | ⟨t, ht, hn, hr⟩
      · exact .inl h2
      · exact .inr ⟨t, ht, hn, rulb_mono (fun y hy => pas_memL l _ y hy) hr⟩
    · exact .inr h1
/-- The set that filled tells, of a list that may be. -/
structure Fls (l : List Tp) (F : List ByteArray) : Prop where
  own : ∀ x ∈ own9, x ∈ F
  why : ∀ x ∈ F, x ∈ own9 ∨ ∃ t ∈ l, t.n = x ∧ rulb F t = true
  cl : ∀ t ∈ l, rulb F t = true → t.n ∈ F
  least : ∀ M : List ByteArray, (∀ x ∈ own9, x ∈ M) → (∀ t ∈ l, rulb M t = true → t.n ∈ M) → ∀ x ∈ F, x ∈ M
theorem fls_itr {l : List Tp} {k : Nat} (h : (itr l (k + 1)).length ≤ (itr l k).length) : Fls l (itr l (k + 1)) :=
  ⟨fun x hx => itr_onm l (k + 1) x ((onm_own9 x).2 hx), fun x hx => (itr_why l (k + 1) x hx).imp (onm_own9 x).1 id, (itr_closed l k h).2, fun _ h0 hc x hx => itr_least l (fun y hy => h0 y ((onm_own9 y).1 hy)) hc (k + 1) x hx⟩
theorem gdl_eq {l : List Tp} (g : Gdl l) {t u : Tp} (ht : t ∈ l) (hu : u ∈ l) (e : t.n = u.n) : t = u := by
  obtain ⟨i, hi, ei⟩ := List.getElem_of_mem ht
  obtain ⟨j, hj, ej⟩ := List.getElem_of_mem hu
  have h := g.one i j t u (by rw [List.getElem?_eq_getElem hi, ei]) (by rw [List.getElem?_eq_getElem hj, ej]) e
  subst h
  rw [← ei, ← ej]
theorem fls_iff {l : List Tp} {F : List ByteArray} (g : Gdl l) (f : Fls l F) {t : Tp} (ht : t ∈ l) : rulb F t = true ↔ t.n ∈ F := by
  refine ⟨f.cl t ht, fun h => ?_⟩
  rcases f.why _ h with h1 | ⟨u, hu, hn, hr⟩
  · exact absurd h1 (g.own t ht)
  · rw [← gdl_eq g hu ht hn]
    exact hr
theorem fll_mem {l : List Tp} {F : List ByteArray} {x : ByteArray} : x ∈ fll F l ↔ x ∈ F ∧ ∃ t ∈ l, t.n = x := by
  unfold fll
  rw [List.mem_map]
  constructor
  · rintro ⟨t, ht, rfl⟩
    obtain ⟨h1, h2⟩ := List.mem_filter.1 ht
    exact ⟨memb_iff.1 h2, t, h1, rfl⟩
  · rintro ⟨h, t, ht, rfl⟩
    exact ⟨t, List.mem_filter.2 ⟨ht, memb_iff.2 h⟩, rfl⟩
theorem full_mem {l : List Tp} {F : List ByteArray} (f : Fls l F) {x : ByteArray} : x ∈ own9 ++ fll F l ↔ x ∈ F := by
  rw [List.mem_append, fll_mem]
  constructor
  · rintro (h | h)
    · exact f.own x h
    · exact h.1
  · intro h
    rcases f.why x h with h1 | ⟨t, ht, hn, _⟩
    · exact .inl h1
    · exact .inr ⟨h, t, ht, hn⟩
/-- It is closed. -/
theorem full_rul {l : List Tp} {F : List ByteArray} (g : Gdl l) (f : Fls l F) {t : Tp} (ht : t ∈ l) : rulb (own9 ++ fll F l) t = memb (fll F l) t.n := by
  have h1 : rulb (own9 ++ fll F l) t = true ↔ rulb F t = true := ⟨rulb_mono (fun x hx => (full_mem f).1 hx), rulb_mono (fun x hx => (full_mem f).2 hx)⟩
  rw [Bool.eq_iff_iff, h1, fls_iff g f ht, memb_iff, fll_mem]
  exact ⟨fun h => ⟨h, t, ht, rfl⟩, fun h => h.1⟩
theorem frd1_len (all A : List ByteArray) (t : Tp) : A.length ≤ (frd1 all A t).length := by
  unfold frd1
  split
  · rw [List.length_append]; omega
  · exact Nat.le_refl _
theorem frd_len (all : List ByteArray) : ∀ (l : List Tp) (A : List ByteArray), A.length ≤ (frd all A l).length
  | [], _ => Nat.le_refl _
  | t :: r, A => Nat.le_trans (frd1_len all A t) (frd_len all r (frd1 all A t))
theorem frd1_same {all A : List ByteArray} {t : Tp} (h : (frd1 all A t).length ≤ A.length) : frd1 all A t = A ∧ (memb all t.n && (!memb A t.n && rulb A t)) = false := by
  unfold frd1 at *
  split at h
  · rw [List.length_append, List.length_singleton] at h
    omega
  · next hn => exact ⟨if_neg hn, by simpa using hn⟩
theorem frd_same (all : List ByteArray) : ∀ (l : List Tp) (A : List ByteArray), (frd all A l).length ≤ A.length → ∀ t ∈ l, (memb all t.n && (!memb A t.n && rulb A t)) = false
  | [], _, _, _, h => by cases h
  | t :: r, A, h, u, hu => by
    have e : frd all A (t :: r) = frd all (frd1 all A t) r := rfl
    rw [e] at h
    obtain ⟨e1, h1⟩ := frd1_same (Nat.le_trans (frd_len all r (frd1 all A t)) h)
    rw [e1] at h
    rcases List.mem_cons.1 hu with rfl | hu
    · exact h1
    · exact frd_same all r A h u hu
/-- What a round keeps. -/
structure Rdi (F : List ByteArray) (l : List Tp) (A : List ByteArray) : Prop where
  nd : A.Nodup
  sub : ∀ x ∈ A, x ∈ own9 ++ fll F l
  own : ∀ x ∈ own9, x ∈ A
theorem Rdi.one {F : List ByteArray} {l : List Tp} {A : List ByteArray} (h : Rdi F l A) (t : Tp) : Rdi F l (frd1 (fll F l) A t) := by
  unfold frd1
  split
  · next hc =>
    rw [Bool.and_eq_true, Bool.and_eq_true] at hc
    have hn : t.n ∉ A := fun e => by
      have := hc.2.1
      rw [memb_iff.2 e] at this
      cases this
    refine ⟨List.nodup_append.2 ⟨h.nd, by simp, fun a ha b hb e => ?_⟩, fun x hx => ?_, fun x hx => List.mem_append_left _ (h.own x hx)⟩
    · rw [List.mem_singleton.1 hb] at e
      exact hn (e ▸ ha)
    · rcases List.mem_append.1 hx with hx | hx
      · exact h.sub x hx
      · rw [List.mem_singleton.1 hx]
        exact List.mem_append_right _ (memb_iff.1 hc.1)
  · exact h
theorem Rdi.round {F : List ByteArray} {l : List Tp} : ∀ (ts : List Tp) {A : List ByteArray}, Rdi F l A → Rdi F l (frd (fll F l) A ts)
  | [], _, h => h
  | t :: r, _, h => Rdi.round r (h.one t)
theorem Rdi.all {F : List ByteArray} {l : List Tp} : ∀ n, Rdi F l (frds (fll F l) l n)
  | 0 => ⟨own9_nodup, fun _ h => List.mem_append_left _ h, fun _ h => h⟩
  | n + 1 => Rdi.round l (Rdi.all n)
theorem full_nodup {l : List Tp} {F : List ByteArray} (g : Gdl l) : (own9 ++ fll F l).Nodup := by
  refine List.nodup_append.2 ⟨own9_nodup, ?_, fun a ha b hb e => ?_⟩
  · unfold fll
    have hp : (l.filter fun t => memb F t.n).Pairwise (fun t u => t.n ≠ u.n) := by
      refine List.Pairwise.filter _ ?_
      rw [List.pairwise_iff_getElem]
      intro i j hi hj hij e
      have := g.one i j _ _ (List.getElem?_eq_getElem hi) (List.getElem?_eq_getElem hj) e
      omega
    exact List.pairwise_map.2 hp
  · subst e
    obtain ⟨_, t, ht, hn⟩ := fll_mem.1 hb
    exact g.own t ht (hn ▸ ha)
theorem frds_len {l : List Tp} {F : List ByteArray} (g : Gdl l) (f : Fls l F) : ∀ n, min (9 + n) (9 + (fll F l).length) ≤ (frds (fll F l) l n).length
  | 0 => by
    show min (9 + 0) (9 + (fll F l).length) ≤ own9.length
    have : own9.length = 9 := rfl
    omega
  | n + 1 => by
    have ih := frds_len g f n
    have hi : Rdi F l (frds (fll F l) l n) := Rdi.all n
    have hl := frd_len (fll F l) l (frds (fll F l) l n)
    have e : frds (fll F l) l (n + 1) = frd (fll F l) (frds (fll F l) l n) l := rfl
    rw [e]
    by_cases hs : (frd (fll F l) (frds (fll F l) l n) l).length ≤ (frds (fll F l) l n).length
    · have hno := frd_same (fll F l) l (frds (fll F l) l n) hs
      have hF : ∀ x ∈ F, x ∈ frds (fll F l) l n := f.least _ hi.own (fun t ht hr => by
        have h1 := hno t ht
        have h2 : rulb (own9 ++ fll F l) t = true := rulb_mono hi.sub hr
        rw [full_rul g f ht] at h2
        rw [h2, hr] at h1
        cases hm : memb (frds (fll F l) l n) t.n with
        | true => exact memb_iff.1 hm
        | false => rw [hm] at h1; cases h1)
      have := nodup_lenG (own9 ++ fll F l) (frds (fll F l) l n) (full_nodup g) (fun x hx => hF x ((full_mem f).1 hx))
      rw [List.length_append] at this
      have h9 : own9.length = 9 := rfl
      omega
    · omega
theorem frds_end {l : List Tp} {F : List ByteArray} (g : Gdl l) (f : Fls l F) : (frds (fll F l) l l.length).length = 9 + (fll F l).length := by
  have h1 := frds_len g f l.length
  have h2 : (fll F l).length ≤ l.length := by
    unfold fll
    rw [List.length_map]
    exact List.length_filter_le _ _
  have h3 := nodup_lenG _ (own9 ++ fll F l) (Rdi.all (F := F) (l := l) l.length).nd (Rdi.all l.length).sub
  rw [List.length_append] at h3
  have h9 : own9.length = 9 := rfl
  omega
end
section
open Go.RowKit Go
/-! ### The reference's copies -/
set_option maxRecDepth 1000000 in
set_option maxHeartbeats 1000000 in
theorem copyF_any (w : World) (v : Value) (xs : List Fd) (hv : FSl w v xs) (hn : xs.length ≤ 1000000) : Calls Tryd.prog 31 #[v] w fun e w' => ∃ v', e = .returned v' ∧ Hid (FSl w' v' xs ∧ Below w.heap.size w w' ∧ ∀ q, v'.ownBlock = some q → w.heap.size ≤ q) := by
  have HV := hide hv
  obtain ⟨⟨a, cap, rfl, hcap, hform⟩, hmax⟩ := hv
  have HN := hide hn
  have HC : Hid ((xs.map fdc) = [] ∨ ∃ b off, a = some ⟨b, off, none⟩ ∧ ∀ (i : Nat) (d : Array Value), (xs.map fdc)[i]? = some d → ∀ j u, d[j]? = some u → w.cell? ⟨b, off + i * 5 + j, none⟩ = some u) := by
    rcases hform with h | ⟨b, off, e, h⟩
    · exact .inl (by rw [h]; rfl)
    · refine .inr ⟨b, off, e, fun i d hd j u hu => ?_⟩
      rw [List.getElem?_map] at hd
      cases hx : xs[i]? with
      | none => rw [hx] at hd; cases hd
      | some x =>
        rw [hx] at hd
        injection hd with hd
        subst hd
        obtain ⟨c, ⟨hcx, _⟩, hcell⟩ := h i x hx
        subst hcx
        exact hcell j u hu
  have HL : Hid (∀ c ∈ xs.map fdc, c.size = 5) := fun c hc => by obtain ⟨x, _, rfl⟩ := List.mem_map.1 hc; rfl
  have H1 : Hid (∀ u ∈ gfl (xs.map fdc), u.oneCell' = true) := fun u hu => by
    obtain ⟨c, hc, hu⟩ := List.mem_flatMap.1 hu
    obtain ⟨x, _, rfl⟩ := List.mem_map.1 hc
    simp only [fdc, List.mem_cons, List.not_mem_nil, or_false] at hu
    rcases hu with rfl | rfl | rfl | rfl | rfl <;> rfl
  have HC0 := hide hcap.2
  have HLE : Hid ((xs.map fdc).length = xs.length) := by show _ = _; rw [List.length_map]
  have HAP : Hid (∀ (ops : Array Oper) (rest : List Oper) (o : Oper) (ac : Act) (Q : Exit → Act → World → Prop) (s y : Operand), o.guard = none → o.op = .call { callee := .builtin .append, args := #[s, y], argTypes := #[25, 25] } → ac.eval s = .slice none 0 0 → ac.eval y = .slice a xs.length cap → (∀ v' w', w'.ownsRow w.heap.size 46 5 v' (xs.map fdc).length (gfl (xs.map fdc)) → Below w.heap.size w w' → wpList Tryd.prog ops Q rest (ac.put o.dst v') w') → wpList Tryd.prog ops Q (o :: rest) ac w) := fun ops rest o ac Q s y h1 h2 h3 h4 h5 => append_all infoF3 Tryd.underlying25 rfl (by decide) (by decide) h1 h2 h3 (by rw [HLE.out]; exact h4) HL.out H1.out (by rw [HLE.out]; exact HN.out) HC0.out HC.out h5
  clear hform hcap hn
  go_enter Tryd.func31, Tryd.ntmps31
  go_wp2_with (refine HAP.out _ _ _ _ _ _ _ rfl rfl rfl rfl ?_; intro v' w' ho hb)
  go_ret
  refine ⟨_, rfl, ?_, hb, fun q e => (ho.lt q e).1⟩
  exact own_gsl (xs := xs) ho HL.out HLE.out HV.out.max (fun i x c hx hc => by
    rw [List.getElem?_map, hx] at hc
    injection hc with hc
    subst hc
    rcases HV.out.form with ⟨_, _, _, _, h | ⟨b, off, _, h⟩⟩
    · rw [h] at hx; cases hx
    · obtain ⟨c', hP, _⟩ := h i x hx
      exact ⟨rfl, hP.2⟩)

set_option maxRecDepth 1000000 in
set_option maxHeartbeats 1000000 in
theorem copyC_any (w : World) (v : Value) (xs : List Cz) (hv : CSl w v xs) (hn : xs.length ≤ 1000000) : Calls Tryd.prog 32 #[v] w fun e w' => ∃ v', e = .returned v' ∧ Hid (CSl w' v' xs ∧ Below w.heap.size w w' ∧ ∀ q, v'.ownBlock = some q → w.heap.size ≤ q) := by
  have HV := hide hv
  obtain ⟨⟨a, cap, rfl, hcap, hform⟩, hmax⟩ := hv
  have HN := hide hn
  have HC : Hid ((xs.map czc) = [] ∨ ∃ b off, a = some ⟨b, off, none⟩ ∧ ∀ (i : Nat) (d : Array Value), (xs.map czc)[i]? = some d → ∀ j u, d[j]? = some u → w.cell? ⟨b, off + i * 2 + j, none⟩ = some u) := by
    rcases hform with h | ⟨b, off, e, h⟩
    · exact .inl (by rw [h]; rfl)
    · refine .inr ⟨b, off, e, fun i d hd j u hu => ?_⟩
      rw [List.getElem?_map] at hd
      cases hx : xs[i]? with
      | none => rw [hx] at hd; cases hd
      | some x =>
        rw [hx] at hd
        injection hd with hd
        subst hd
        obtain ⟨c, ⟨hcx, _⟩, hcell⟩ := h i x hx
        subst hcx
        exact hcell j u hu
  have HL : Hid (∀ c ∈ xs.map czc, c.size = 2) := fun c hc => by obtain ⟨x, _, rfl⟩ := List.mem_map.1 hc; rfl
  have H1 : Hid (∀ u ∈ gfl (xs.map czc), u.oneCell' = true) := fun u hu => by
    obtain ⟨c, hc, hu⟩ := List.mem_flatMap.1 hu
    obtain ⟨x, _, rfl⟩ := List.mem_map.1 hc
    simp only [czc, List.mem_cons, List.not_mem_nil, or_false] at hu
    rcases hu with rfl | rfl <;> rfl
  have HC0 := hide hcap.2
  have HLE : Hid ((xs.map czc).length = xs.length) := by show _ = _; rw [List.length_map]
  have HAP : Hid (∀ (ops : Array Oper) (rest : List Oper) (o : Oper) (ac : Act) (Q : Exit → Act → World → Prop) (s y : Operand), o.guard = none → o.op = .call { callee := .builtin .append, args := #[s, y], argTypes := #[26, 26] } → ac.eval s = .slice none 0 0 → ac.eval y = .slice a xs.length cap → (∀ v' w', w'.ownsRow w.heap.size 48 2 v' (xs.map czc).length (gfl (xs.map czc)) → Below w.heap.size w w' → wpList Tryd.prog ops Q rest (ac.put o.dst v') w') → wpList Tryd.prog ops Q (o :: rest) ac w) := fun ops rest o ac Q s y h1 h2 h3 h4 h5 => append_all infoC3 Tryd.underlying26 rfl (by decide) (by decide) h1 h2 h3 (by rw [HLE.out]; exact h4) HL.out H1.out (by rw [HLE.out]; exact HN.out) HC0.out HC.out h5
  clear hform hcap hn
  go_enter Tryd.func32, Tryd.ntmps32
  go_wp2_with (refine HAP.out _ _ _ _ _ _ _ rfl rfl rfl rfl ?_; intro v' w' ho hb)
  go_ret
  refine ⟨_, rfl, ?_, hb, fun q e => (ho.lt q e).1⟩
  exact own_gsl (xs := xs) ho HL.out HLE.out HV.out.max (fun i x c hx hc => by
    rw [List.getElem?_map, hx] at hc
    injection hc with hc
    subst hc
    rcases HV.out.form with ⟨_, _, _, _, h | ⟨b, off, _, h⟩⟩
    · rw [h] at hx; cases hx
    · obtain ⟨c', hP, _⟩ := h i x hx
      exact ⟨rfl, hP.2⟩)

set_option maxRecDepth 1000000 in
set_option maxHeartbeats 1000000 in
theorem copyS_any (w : World) (v : Value) (xs : List ByteArray) (hv : SSl w v xs) (hn : xs.length ≤ 1000000) : Calls Tryd.prog 11 #[v] w fun e w' => ∃ v', e = .returned v' ∧ Hid (SSl w' v' xs ∧ Below w.heap.size w w' ∧ w'.ownsRow w.heap.size 9 1 v' xs.length (gfl (xs.map (fun s => #[Value.string s])))) := by
  have HV := hide hv
  obtain ⟨⟨a, cap, rfl, hcap, hform⟩, hmax, _⟩ := hv
  have HN := hide hn
  have HC : Hid ((xs.map (fun s => #[Value.string s])) = [] ∨ ∃ b off, a = some ⟨b, off, none⟩ ∧ ∀ (i : Nat) (d : Array Value), (xs.map (fun s => #[Value.string s]))[i]? = some d → ∀ j u, d[j]? = some u → w.cell? ⟨b, off + i * 1 + j, none⟩ = some u) := by
    rcases hform with h | ⟨b, off, e, h⟩
    · exact .inl (by rw [h]; rfl)
    · refine .inr ⟨b, off, e, fun i d hd j u hu => ?_⟩
      rw [List.getElem?_map] at hd
      cases hx : xs[i]? with
      | none => rw [hx] at hd; cases hd
      | some x =>
        rw [hx] at hd
        injection hd with hd
        subst hd
        rcases j with _ | j
        · have e1 : u = .string x := by simpa using hu.symm
          subst e1
          rw [Nat.mul_one, Nat.add_zero]
          exact h i x hx
        · simp at hu
  have HL : Hid (∀ c ∈ xs.map (fun s => #[Value.string s]), c.size = 1) := fun c hc => by obtain ⟨x, _, rfl⟩ := List.mem_map.1 hc; rfl
  have H1 : Hid (∀ u ∈ gfl (xs.map (fun s => #[Value.string s])), u.oneCell' = true) := fun u hu => by
    obtain ⟨c, hc, hu⟩ := List.mem_flatMap.1 hu
    obtain ⟨x, _, rfl⟩ := List.mem_map.1 hc
    simp only [List.mem_cons, List.not_mem_nil, or_false] at hu
    rw [hu]; rfl
  have HC0 := hide hcap.2
  have HLE : Hid ((xs.map (fun s => #[Value.string s])).length = xs.length) := by show _ = _; rw [List.length_map]
  have HAP : Hid (∀ (ops : Array Oper) (rest : List Oper) (o : Oper) (ac : Act) (Q : Exit → Act → World → Prop) (s y : Operand), o.guard = none → o.op = .call { callee := .builtin .append, args := #[s, y], argTypes := #[27, 27] } → ac.eval s = .slice none 0 0 → ac.eval y = .slice a xs.length cap → (∀ v' w', w'.ownsRow w.heap.size 9 1 v' (xs.map (fun s => #[Value.string s])).length (gfl (xs.map (fun s => #[Value.string s]))) → Below w.heap.size w w' → wpList Tryd.prog ops Q rest (ac.put o.dst v') w') → wpList Tryd.prog ops Q (o :: rest) ac w) := fun ops rest o ac Q s y h1 h2 h3 h4 h5 => append_all infoS3 Tryd.underlying27 rfl (by decide) (by decide) h1 h2 h3 (by rw [HLE.out]; exact h4) HL.out H1.out (by rw [HLE.out]; exact HN.out) HC0.out HC.out h5
  clear hform hcap hn
  go_enter Tryd.func11, Tryd.ntmps11
  go_wp2_with (refine HAP.out _ _ _ _ _ _ _ rfl rfl rfl rfl ?_; intro v' w' ho hb)
  go_ret
  refine ⟨_, rfl, ?_, hb, by rw [← HLE.out]; exact ho⟩
  have hg := own_gsl (P := fun _ s c => c = #[Value.string s]) (xs := xs) ho HL.out HLE.out HV.out.max (fun i x c hx hc => by
    rw [List.getElem?_map, hx] at hc
    injection hc with hc
    exact hc.symm)
  obtain ⟨⟨a', cap', hv', hc', hf'⟩, hm'⟩ := hg
  refine ⟨⟨a', cap', hv', hc', ?_⟩, hm', HV.out.size⟩
  rcases hf' with h | ⟨b, off, e, h⟩
  · exact .inl h
  · refine .inr ⟨b, off, e, fun j s hs => ?_⟩
    obtain ⟨c, rfl, hcell⟩ := h j s hs
    have := hcell 0 (.string s) rfl
    rw [Nat.mul_one, Nat.add_zero] at this
    exact this
end
section
open Go.RowKit Go
/-- What CopyType has in hand: its argument, its answer, the copy. -/
structure Cpw (w : World) (ta tc : Array Value) (wx : World) : Prop where
  a : wx.heap[w.heap.size]? = some (.cells ta 29 (0, 0))
  r : wx.heap[w.heap.size + 1]? = some (.cells #[.string ⟨#[]⟩, .int .i64 0, .int .i64 0, .int .i64 0, .string ⟨#[]⟩, .bool false, .slice none 0 0, .slice none 0 0, .slice none 0 0] 29 (0, 0))
  c : wx.heap[w.heap.size + 2]? = some (.cells tc 29 (0, 0))
  b : Below w.heap.size w wx
theorem Cpw.next {w wx wy : World} {ta tc : Array Value} (h : Cpw w ta tc wx) (hb : Below wx.heap.size wx wy) : Cpw w ta tc wy := ⟨(hb.block _ (blk_lt h.a)).trans h.a, (hb.block _ (blk_lt h.r)).trans h.r, (hb.block _ (blk_lt h.c)).trans h.c, h.b.trans (hb.mono h.b.size)⟩
theorem Cpw.set {w wx : World} {ta tc : Array Value} (h : Cpw w ta tc wx) (j : Nat) (v : Value) : Cpw w ta (tc.setIfInBounds j v) (wx.setCell ⟨w.heap.size + 2, j, none⟩ v) := ⟨blk_other j v h.a (by omega), blk_other j v h.r (by omega), blk_set j v h.c, h.b.trans (((Kp.refl (fun q => q = w.heap.size + 2) wx).setCell _ _ (fun _ => rfl)).below h.b.size (fun q e => by omega))⟩
theorem Cpw.start (w : World) (ta : Array Value) : Cpw w ta ta (((w.alloc (.cells ta 29)).alloc (.cells #[.string ⟨#[]⟩, .int .i64 0, .int .i64 0, .int .i64 0, .string ⟨#[]⟩, .bool false, .slice none 0 0, .slice none 0 0, .slice none 0 0] 29)).alloc (.cells ta 29)) := by
  have z : ∀ (V : World) (o : Obj), (V.alloc o).heap.size = V.heap.size + 1 := fun V o => by simp
  have h1 := heap_alloc_new w (.cells ta 29)
  have h2 := heap_alloc_new (w.alloc (.cells ta 29)) (.cells #[.string ⟨#[]⟩, .int .i64 0, .int .i64 0, .int .i64 0, .string ⟨#[]⟩, .bool false, .slice none 0 0, .slice none 0 0, .slice none 0 0] 29)
  have h3 := heap_alloc_new ((w.alloc (.cells ta 29)).alloc (.cells #[.string ⟨#[]⟩, .int .i64 0, .int .i64 0, .int .i64 0, .string ⟨#[]⟩, .bool false, .slice none 0 0, .slice none 0 0, .slice none 0 0] 29)) (.cells ta 29)
  simp only [z] at h2 h3
  have b1 := below_alloc4 w (.cells ta 29)
  have b2 := b1.alloc b1.size (.cells #[.string ⟨#[]⟩, .int .i64 0, .int .i64 0, .int .i64 0, .string ⟨#[]⟩, .bool false, .slice none 0 0, .slice none 0 0, .slice none 0 0] 29)
  exact ⟨blk_alloc _ (blk_alloc _ h1), blk_alloc _ h2, h3, b2.alloc b2.size _⟩
set_option maxRecDepth 1000000 in
set_option maxHeartbeats 4000000 in
theorem copyT_any (w : World) (t : Tp) (c : Array Value) (hc : Tpi w t c) (hf1 : t.fs.length ≤ 1000) (hc1 : t.cs.length ≤ 1000) (hw1 : t.ws.length ≤ 1000) : Calls Tryd.prog 20 #[.agg c] w fun e w' => ∃ c', e = .returned (.agg c') ∧ Hid (Tpi w' t c' ∧ Below w.heap.size w w' ∧ ∀ (S : Nat → Prop) wy, (∀ q, S q → q < w.heap.size) → Kp S w' wy → Tpi wy t c') := by
  have HBD := hide hc.b
  obtain ⟨⟨vf, vc, vw, rfl, hF, hC, hW⟩, _⟩ := hc
  have HF0 := hide hF
  have HC0 := hide hC
  have HW0 := hide hW
  obtain ⟨⟨af, cf, rfl, _, _⟩, _⟩ := hF
  obtain ⟨⟨ac, cc, rfl, _, _⟩, _⟩ := hC
  obtain ⟨⟨aw, cw, rfl, _, _⟩, _, _⟩ := hW
  have HN : Hid (t.fs.length ≤ 1000000 ∧ t.cs.length ≤ 1000000 ∧ t.ws.length ≤ 1000000) := by show _ ∧ _; omega
  unfold tpc
  have HX := hide (Cpw.start w #[.string t.n, .int .i64 t.k, .int .i64 t.lo, .int .i64 t.hi, .string t.r.n, .bool t.r.z, .slice af t.fs.length cf, .slice ac t.cs.length cc, .slice aw t.ws.length cw])
  have HIT := hide infoTp
  have HAT : Hid (∀ w, (isAgg 29).run Tryd.prog w = .ok true w) := aggTp
  have HTC : Hid (∀ wy, Below w.heap.size w wy → ∀ wz, wz = (w.alloc (.cells #[.string t.n, .int .i64 t.k, .int .i64 t.lo, .int .i64 t.hi, .string t.r.n, .bool t.r.z, .slice af t.fs.length cf, .slice ac t.cs.length cc, .slice aw t.ws.length cw] 29)).alloc (.cells #[.string ⟨#[]⟩, .int .i64 0, .int .i64 0, .int .i64 0, .string ⟨#[]⟩, .bool false, .slice none 0 0, .slice none 0 0, .slice none 0 0] 29) → ∀ j u, (#[.string t.n, .int .i64 t.k, .int .i64 t.lo, .int .i64 t.hi, .string t.r.n, .bool t.r.z, .slice af t.fs.length cf, .slice ac t.cs.length cc, .slice aw t.ws.length cw] : Array Value)[j]? = some u → wz.cell? ⟨w.heap.size, 0 + j, none⟩ = some u) := fun _ _ wz hz j u hu => by rw [hz, Nat.zero_add]; exact blk_cell (blk_alloc _ (heap_alloc_new w _)) hu
  clear hf1 hc1 hw1
  go_enter Tryd.func20, Tryd.ntmps20
  go_upto_region 2 with (refine wpList_aggAt rfl rfl HIT.out HAT.out w.heap.size 0 #[.string t.n, .int .i64 t.k, .int .i64 t.lo, .int .i64 t.hi, .string t.r.n, .bool t.r.z, .slice af t.fs.length cf, .slice ac t.cs.length cc, .slice aw t.ws.length cw] rfl rfl (HTC.out w (Below.refl _ _) _ rfl) ?_)
  clear HTC
  rw [show w.heap.size + 1 + 1 = w.heap.size + 2 from rfl]
  generalize ((w.alloc (.cells #[.string t.n, .int .i64 t.k, .int .i64 t.lo, .int .i64 t.hi, .string t.r.n, .bool t.r.z, .slice af t.fs.length cf, .slice ac t.cs.length cc, .slice aw t.ws.length cw] 29)).alloc (.cells #[.string ⟨#[]⟩, .int .i64 0, .int .i64 0, .int .i64 0, .string ⟨#[]⟩, .bool false, .slice none 0 0, .slice none 0 0, .slice none 0 0] 29)).alloc (.cells #[.string t.n, .int .i64 t.k, .int .i64 t.lo, .int .i64 t.hi, .string t.r.n, .bool t.r.z, .slice af t.fs.length cf, .slice ac t.cs.length cc, .slice aw t.ws.length cw] 29) = w0 at *
  have q6 : w0.cell? ⟨w.heap.size, 6, none⟩ = some (.slice af t.fs.length cf) := blk_cell (j := 6) HX.out.a rfl
  go_wp2_with fail
  refine (copyF_any w0 _ t.fs (HF0.out.mv (keep_below HX.out.b)) HN.out.1).mono ?_
  rintro e w1 ⟨vF, rfl, hP⟩
  have hbF := hP.out.2.1
  have HF1 := hide hP.out.1
  have HFq : Hid (∀ q, vF.ownBlock = some q → w.heap.size + 3 ≤ q) := fun q e => by have h1 := hP.out.2.2 q e; have h2 := blk_lt HX.out.c; omega
  replace HX := hide (HX.out.next hbF)
  obtain ⟨⟨fa, fc, hvF, _, _⟩, _⟩ := hP.out.1
  subst hvF
  have o6 : w1.cell? ⟨w.heap.size + 2, 6, none⟩ = some (.slice af t.fs.length cf) := blk_cell (j := 6) HX.out.c rfl
  have z6 := blk_frozen 6 HX.out.c
  have hkF : Kp (fun q => q = w.heap.size + 2) w1 (w1.setCell ⟨w.heap.size + 2, 6, none⟩ (.slice fa t.fs.length fc)) := (Kp.refl _ w1).setCell _ _ (fun _ => rfl)
  have HX2 : Hid (Cpw w #[.string t.n, .int .i64 t.k, .int .i64 t.lo, .int .i64 t.hi, .string t.r.n, .bool t.r.z, .slice af t.fs.length cf, .slice ac t.cs.length cc, .slice aw t.ws.length cw] #[.string t.n, .int .i64 t.k, .int .i64 t.lo, .int .i64 t.hi, .string t.r.n, .bool t.r.z, .slice fa t.fs.length fc, .slice ac t.cs.length cc, .slice aw t.ws.length cw] (w1.setCell ⟨w.heap.size + 2, 6, none⟩ (.slice fa t.fs.length fc))) := HX.out.set 6 (.slice fa t.fs.length fc)
  replace HF1 := hide (FSl.kps HF1.out hkF (fun q e e2 => by have h1 := HFq.out q e; have h2 : q = w.heap.size + 2 := e2; omega))
  clear hP HX q6 hkF hbF
  go_upto_region 3 with fail
  clear o6 z6
  generalize w1.setCell ⟨w.heap.size + 2, 6, none⟩ (.slice fa t.fs.length fc) = w2 at *
  have HX := HX2
  clear HX2
  have q7 : w2.cell? ⟨w.heap.size, 7, none⟩ = some (.slice ac t.cs.length cc) := blk_cell (j := 7) HX.out.a rfl
  go_wp2_with fail
  refine (copyC_any w2 _ t.cs (HC0.out.mv (keep_below HX.out.b)) HN.out.2.1).mono ?_
  rintro e w3 ⟨vC, rfl, hP⟩
  have hbC := hP.out.2.1
  have HC1 := hide hP.out.1
  have HCq : Hid (∀ q, vC.ownBlock = some q → w.heap.size + 3 ≤ q) := fun q e => by have h1 := hP.out.2.2 q e; have h2 := blk_lt HX.out.c; omega
  replace HX := hide (HX.out.next hbC)
  obtain ⟨⟨ca, cd, hvC, _, _⟩, _⟩ := hP.out.1
  subst hvC
  have o7 : w3.cell? ⟨w.heap.size + 2, 7, none⟩ = some (.slice ac t.cs.length cc) := blk_cell (j := 7) HX.out.c rfl
  have z7 := blk_frozen 7 HX.out.c
  have hkC : Kp (fun q => q = w.heap.size + 2) w3 (w3.setCell ⟨w.heap.size + 2, 7, none⟩ (.slice ca t.cs.length cd)) := (Kp.refl _ w3).setCell _ _ (fun _ => rfl)
  have HX2 : Hid (Cpw w #[.string t.n, .int .i64 t.k, .int .i64 t.lo, .int .i64 t.hi, .string t.r.n, .bool t.r.z, .slice af t.fs.length cf, .slice ac t.cs.length cc, .slice aw t.ws.length cw] #[.string t.n, .int .i64 t.k, .int .i64 t.lo, .int .i64 t.hi, .string t.r.n, .bool t.r.z, .slice fa t.fs.length fc, .slice ca t.cs.length cd, .slice aw t.ws.length cw] (w3.setCell ⟨w.heap.size + 2, 7, none⟩ (.slice ca t.cs.length cd))) := HX.out.set 7 (.slice ca t.cs.length cd)
  replace HF1 := hide (FSl.kps (FSl.mv HF1.out (keep_below hbC)) hkC (fun q e e2 => by have h1 := HFq.out q e; have h2 : q = w.heap.size + 2 := e2; omega))
  replace HC1 := hide (CSl.kps HC1.out hkC (fun q e e2 => by have h1 := HCq.out q e; have h2 : q = w.heap.size + 2 := e2; omega))
  clear hP HX q7 hkC hbC
  go_upto_region 4 with fail
  clear o7 z7
  generalize w3.setCell ⟨w.heap.size + 2, 7, none⟩ (.slice ca t.cs.length cd) = w4 at *
  have HX := HX2
  clear HX2
  have q8 : w4.cell? ⟨w.heap.size, 8, none⟩ = some (.slice aw t.ws.length cw) := blk_cell (j := 8) HX.out.a rfl
  go_wp2_with fail
  refine (copyS_any w4 _ t.ws (HW0.out.move (keep_below HX.out.b)) HN.out.2.2).mono ?_
  rintro e w5 ⟨vS, rfl, hP⟩
  have hbS := hP.out.2.1
  have HS1 := hide hP.out.1
  have HSq : Hid (∀ q, vS.ownBlock = some q → w.heap.size + 3 ≤ q) := fun q e => by have h1 := (fun q e => (hP.out.2.2.lt q e).1) q e; have h2 := blk_lt HX.out.c; omega
  replace HX := hide (HX.out.next hbS)
  obtain ⟨⟨wa, wc, hvS, _, _⟩, _, _⟩ := hP.out.1
  subst hvS
  have o8 : w5.cell? ⟨w.heap.size + 2, 8, none⟩ = some (.slice aw t.ws.length cw) := blk_cell (j := 8) HX.out.c rfl
  have z8 := blk_frozen 8 HX.out.c
  have hkS : Kp (fun q => q = w.heap.size + 2) w5 (w5.setCell ⟨w.heap.size + 2, 8, none⟩ (.slice wa t.ws.length wc)) := (Kp.refl _ w5).setCell _ _ (fun _ => rfl)
  have HX2 : Hid (Cpw w #[.string t.n, .int .i64 t.k, .int .i64 t.lo, .int .i64 t.hi, .string t.r.n, .bool t.r.z, .slice af t.fs.length cf, .slice ac t.cs.length cc, .slice aw t.ws.length cw] #[.string t.n, .int .i64 t.k, .int .i64 t.lo, .int .i64 t.hi, .string t.r.n, .bool t.r.z, .slice fa t.fs.length fc, .slice ca t.cs.length cd, .slice wa t.ws.length wc] (w5.setCell ⟨w.heap.size + 2, 8, none⟩ (.slice wa t.ws.length wc))) := HX.out.set 8 (.slice wa t.ws.length wc)
  replace HF1 := hide (FSl.kps (FSl.mv HF1.out (keep_below hbS)) hkS (fun q e e2 => by have h1 := HFq.out q e; have h2 : q = w.heap.size + 2 := e2; omega))
  replace HC1 := hide (CSl.kps (CSl.mv HC1.out (keep_below hbS)) hkS (fun q e e2 => by have h1 := HCq.out q e; have h2 : q = w.heap.size + 2 := e2; omega))
  replace HS1 := hide (SSl.kps HS1.out hkS (fun q e e2 => by have h1 := HSq.out q e; have h2 : q = w.heap.size + 2 := e2; omega))
  clear hP HX q8 hkS hbS
  go_upto_region 5 with fail
  clear o8 z8
  generalize w5.setCell ⟨w.heap.size + 2, 8, none⟩ (.slice wa t.ws.length wc) = w6 at *
  have HX := HX2
  clear HX2
  have HR := hide HX.out.r
  have HI2 : Hid ((Tryd.prog.info? 29).map (·.size) = some (#[.string t.n, .int .i64 t.k, .int .i64 t.lo, .int .i64 t.hi, .string t.r.n, .bool t.r.z, .slice fa t.fs.length fc, .slice ca t.cs.length cd, .slice wa t.ws.length wc] : Array Value).size) := infoTp
  have HA1 : Hid ((#[.string t.n, .int .i64 t.k, .int .i64 t.lo, .int .i64 t.hi, .string t.r.n, .bool t.r.z, .slice fa t.fs.length fc, .slice ca t.cs.length cd, .slice wa t.ws.length wc] : Array Value).all (·.oneCell') = true) := by show _ = _; simp [Value.oneCell']
  have HTC : Hid (∀ j u, (#[.string t.n, .int .i64 t.k, .int .i64 t.lo, .int .i64 t.hi, .string t.r.n, .bool t.r.z, .slice fa t.fs.length fc, .slice ca t.cs.length cd, .slice wa t.ws.length wc] : Array Value)[j]? = some u → w6.cell? ⟨w.heap.size + 2, 0 + j, none⟩ = some u) := fun j u hu => by rw [Nat.zero_add]; exact blk_cell HX.out.c hu
  go_wp2_with (first
    | (refine wpList_aggAt rfl rfl HIT.out HAT.out (w.heap.size + 2) 0 #[.string t.n, .int .i64 t.k, .int .i64 t.lo, .int .i64 t.hi, .string t.r.n, .bool t.r.z, .slice fa t.fs.length fc, .slice ca t.cs.length cd, .slice wa t.ws.length wc] rfl rfl HTC.out ?_)
    | (refine wpList_storeRow rfl rfl (w.heap.size + 1) #[.string ⟨#[]⟩, .int .i64 0, .int .i64 0, .int .i64 0, .string ⟨#[]⟩, .bool false, .slice none 0 0, .slice none 0 0, .slice none 0 0] #[.string t.n, .int .i64 t.k, .int .i64 t.lo, .int .i64 t.hi, .string t.r.n, .bool t.r.z, .slice fa t.fs.length fc, .slice ca t.cs.length cd, .slice wa t.ws.length wc] 29 rfl rfl HR.out HI2.out rfl HA1.out ?_))
  have hkr := row_kp w6 (w.heap.size + 1) #[.string t.n, .int .i64 t.k, .int .i64 t.lo, .int .i64 t.hi, .string t.r.n, .bool t.r.z, .slice fa t.fs.length fc, .slice ca t.cs.length cd, .slice wa t.ws.length wc]
  have hn1 : ∀ {v : Value} {S : Nat → Prop}, (∀ q, S q → q < w.heap.size + 3) → (∀ q, v.ownBlock = some q → w.heap.size + 3 ≤ q) → ∀ q, v.ownBlock = some q → ¬ S q := fun h1 h2 q e e2 => by have := h1 q e2; have := h2 q e; omega
  have hone : ∀ q, q = w.heap.size + 1 → q < w.heap.size + 3 := fun q e => by omega
  have hkp : ∀ (S : Nat → Prop) wy, (∀ q, S q → q < w.heap.size) → Kp S (w6.setRow (w.heap.size + 1) #[.string t.n, .int .i64 t.k, .int .i64 t.lo, .int .i64 t.hi, .string t.r.n, .bool t.r.z, .slice fa t.fs.length fc, .slice ca t.cs.length cd, .slice wa t.ws.length wc]) wy → Tpi wy t #[.string t.n, .int .i64 t.k, .int .i64 t.lo, .int .i64 t.hi, .string t.r.n, .bool t.r.z, .slice fa t.fs.length fc, .slice ca t.cs.length cd, .slice wa t.ws.length wc] := fun S wy hg hk => by
    have h3 : ∀ q, S q → q < w.heap.size + 3 := fun q e => by have := hg q e; omega
    exact ⟨⟨_, _, _, rfl, FSl.kps (FSl.kps HF1.out hkr (hn1 hone HFq.out)) hk (hn1 h3 HFq.out), CSl.kps (CSl.kps HC1.out hkr (hn1 hone HCq.out)) hk (hn1 h3 HCq.out), SSl.kps (SSl.kps HS1.out hkr (hn1 hone HSq.out)) hk (hn1 h3 HSq.out)⟩, HBD.out⟩
  exact bodyPost_ret (results_cell_row rfl _ _ _ _ _ _ _ rfl (row_same HR.out) Tryd.underlying29 rfl infoTp) rfl ⟨_, rfl, hkp (fun _ => False) _ (fun _ e => e.elim) (Kp.refl _ _), HX.out.b.trans (hkr.below HX.out.b.size (fun q e => by omega)), hkp⟩
end
section
open Go.RowKit Go
set_option maxRecDepth 1000000 in
set_option maxHeartbeats 4000000 in
theorem copyTs_any (w : World) (v : Value) (l : List Tp) (hv : TSl w v l) (hS : Shrt l) (hl : l.length ≤ 100000) : Calls Tryd.prog 8 #[v] w fun e w' => ∃ v', e = .returned v' ∧ Hid (TSl w' v' l ∧ Below w.heap.size w w') := by
  have HSH := hide hS
  have hmax := hv.max
  obtain ⟨⟨a, cap, rfl, _, hform⟩, _⟩ := hv
  have HF := hide hform
  clear hform hS
  have HX := hide (Opw.start w)
  go_enter Tryd.func8, Tryd.ntmps8
  go_wp2_with fail
  go_loopw [3, 4] (fun vo vi wx => ∃ (i : Nat) (a0 : Option Addr) (n0 c0 : Nat) (L : List (Array Value)), i ≤ l.length ∧ vo = .slice a0 n0 c0 ∧ vi = .int .i64 (i : Nat) ∧ Hid (Opw w (.slice a0 n0 c0) L (l.take i) wx)) (fun _ vi _ => l.length - (intOf vi).toNat)
  case atStart => exact ⟨0, none, 0, 0, [], by omega, rfl, rfl, HX⟩
  case round =>
    obtain ⟨i, a0, n0, c0, L, hi, rfl, rfl, HXi⟩ := hrel
    clear HX
    by_cases hlt : i < l.length
    · have g1 : (i : Int) < (l.length : Int) := by omega
      obtain ⟨t, ht⟩ : ∃ t, l[i]? = some t := ⟨l[i], List.getElem?_eq_getElem hlt⟩
      obtain ⟨b, off, rfl, hcc⟩ := HF.out.resolve_left (fun h => by rw [h] at hlt; simp at hlt)
      obtain ⟨c, hc, hcell⟩ := hcc i t ht
      have HC := hide hc
      obtain ⟨⟨vf, vc, vw, rfl, ⟨⟨af, cf, rfl, -, -⟩, -⟩, ⟨⟨ac, cc, rfl, -, -⟩, -⟩, ⟨⟨aw, cw, rfl, -, -⟩, -, -⟩⟩, -⟩ := hc
      unfold tpc at hcell HC
      have HCL : Hid (∀ j u, (#[.string t.n, .int .i64 t.k, .int .i64 t.lo, .int .i64 t.hi, .string t.r.n, .bool t.r.z, .slice af t.fs.length cf, .slice ac t.cs.length cc, .slice aw t.ws.length cw] : Array Value)[j]? = some u → wr.cell? ⟨b, off + i * 9 + j, none⟩ = some u) := fun j u hj => keep_below HXi.out.b _ _ (hcell j u hj)
      have HC2 : Hid (Tpi wr t #[.string t.n, .int .i64 t.k, .int .i64 t.lo, .int .i64 t.hi, .string t.r.n, .bool t.r.z, .slice af t.fs.length cf, .slice ac t.cs.length cc, .slice aw t.ws.length cw]) := HC.out.move (keep_below HXi.out.b)
      have HSI := hide (HSH.out t (List.mem_of_getElem? ht))
      have HTK := hide (takeP l i t ht)
      have HLL : Hid (L.length ≤ 1000000) := by
        have h1 := HXi.out.n
        rw [List.length_take] at h1
        show _ ≤ _
        omega
      have HIT := hide infoTp
      have HAT : Hid (∀ w, (isAgg 29).run Tryd.prog w = .ok true w) := aggTp
      clear hcc hcell ht HF HC
      go_wp2_with (refine wpList_aggAt rfl rfl HIT.out HAT.out b (off + i * 9) #[.string t.n, .int .i64 t.k, .int .i64 t.lo, .int .i64 t.hi, .string t.r.n, .bool t.r.z, .slice af t.fs.length cf, .slice ac t.cs.length cc, .slice aw t.ws.length cw] rfl rfl HCL.out ?_)
      refine (copyT_any wr t _ HC2.out HSI.out.1 HSI.out.2.1 HSI.out.2.2).mono ?_
      rintro e w3 ⟨c', rfl, hP⟩
      have hb3 := hP.out.2.1
      have hb4 := below_alloc4 w3 (.cells c' 29)
      have HX4 := hide ((HXi.out.next hb3).next hb4)
      have HK4 : Hid (Tpk (w3.alloc (.cells c' 29)) (fun q => q < w.heap.size ∨ (Value.slice a0 n0 c0).ownBlock = some q) t c') := fun wy hk => hP.out.2.2 _ wy (fun q e => by
        rcases e with e | e
        · exact Nat.lt_of_lt_of_le e HXi.out.b.size
        · exact (HXi.out.o.lt q e).2) ((Kp.mono (Kp.of_below (S := fun _ => False) hb4) (fun _ _ e => e.elim)).trans hk (fun _ _ e => e))
      have HZ9 := hide hP.out.1.size9
      have H1C : Hid (∀ u ∈ c'.toList, u.oneCell' = true) := fun u hu => by
        have h := hP.out.1.all1
        rw [Array.all_eq_true_iff_forall_mem] at h
        exact h u (by simpa using hu)
      have HAL : Hid (w.heap.size ≤ (w3.alloc (.cells c' 29)).heap.size) := HX4.out.b.size
      have HAP : Hid (∀ (ops : Array Oper) (rest : List Oper) (o : Oper) (ac : Act) (Q : Exit → Act → World → Prop) (s y : Operand), o.guard = none → o.op = .call { callee := .builtin .append, args := #[s, y], argTypes := #[22, 22] } → ac.eval s = .slice a0 n0 c0 → ac.eval y = .slice (some ⟨w3.heap.size, 0, none⟩) 1 1 → (∀ v' w', Opw w v' (L ++ [c']) (l.take (i + 1)) w' → wpList Tryd.prog ops Q rest (ac.put o.dst v') w') → wpList Tryd.prog ops Q (o :: rest) ac (w3.alloc (.cells c' 29))) := fun ops rest o ac Q s y h1 h2 h3 h4 h5 =>
        append_g infoTp3 Tryd.underlying22 rfl (by decide) (by decide) h1 h2 h3 HX4.out.o h4 (heap_alloc_new w3 _) HZ9.out H1C.out HLL.out HAL.out (fun v' w' h6 h7 h8 => h5 v' w' (by rw [HTK.out]; exact HX4.out.app h7 h6 h8 HZ9.out HK4.out))
      clear hP hb3 hb4 HCL HC2 HXi
      go_wp2_with (first
        | (refine row1 infoTp3 Tryd.underlying22 (by decide) (by decide) rfl rfl rfl (c := c') rfl HZ9.out ?_)
        | (refine HAP.out _ _ _ _ _ _ _ rfl rfl rfl rfl ?_; intro v' w' hr'))
      obtain ⟨a2, c2, hv0, _⟩ := own_formG hr'.o
      subst hv0
      have HR' := hide hr'
      clear hr'
      go_wp2_with fail
      go_roundw
      case rel => exact ⟨i + 1, _, _, _, _, by omega, rfl, by go_num, HR'⟩
      case measure => simp [intOf]; omega
    · have g1 : ¬ (i : Int) < (l.length : Int) := by omega
      have HX2 : Hid (Opw w (.slice a0 n0 c0) L l wr) := by have h := HXi.out; rw [List.take_of_length_le (by omega)] at h; exact h
      clear HXi HF
      go_wp2_with fail
      go_ret
      exact ⟨_, rfl, HX2.out.tsl (by omega), HX2.out.b⟩
end
section
open Go.RowKit Go
/-! ### SchemaEnds: its lists -/
end
section
open Go.RowKit Go
/-! ### A region that draws its order, with a condition on the world that holds till a certain operation comes up -/
section
variable {P : Program} {ops : Array Oper} {Q : Exit → Act → World → Prop} {md : Region.Mode} {k : Nat} {B : World → Prop}
end
section
variable {P : Program} {Q : Exit → Act → World → Prop} {k : Nat} {B : World → Prop} {l : List Oper} {fuel : Nat} {listed : Array Bool} {a : Act} {w : World}
end
end
section
open Go.RowKit Go
/-! ### SchemaEnds: five rows that grow side by side -/
end
section
open Go.RowKit Go
theorem ssl_gsl {w : World} {v : Value} {ks : List ByteArray} (h : GSl 1 (fun _ (s : ByteArray) c => c = #[.string s]) w v ks) (hs : ∀ s ∈ ks, s.size ≤ 140737488351232) : SSl w v ks := by
  obtain ⟨⟨a, cap, e, hn, hc⟩, hm⟩ := h
  refine ⟨⟨a, cap, e, hn, ?_⟩, hm, hs⟩
  rcases hc with hc | ⟨b, off, ha, hc⟩
  · exact .inl hc
  · refine .inr ⟨b, off, ha, fun j s hj => ?_⟩
    obtain ⟨c, rfl, h3⟩ := hc j s hj
    have := h3 0 _ rfl
    rw [Nat.mul_one, Nat.add_zero] at this
    exact this
end
section
open Go.RowKit Go
/-! ### SchemaFilled: what it has in hand -/
def gst (L : List ByteArray) : List Value := gfl (L.map fun s => #[Value.string s])
/-- Behind the ninth question: what was there when Open was called, and what was there then, but for the row of built-in names. -/
structure Sfs (w4 W7 : World) (A : Nat) (wx : World) : Prop where
  b4 : Below w4.heap.size w4 wx
  kp : Kp (fun q => q = A ∨ W7.heap.size ≤ q) W7 wx
theorem Sfs.next {w4 W7 wx wy : World} {A : Nat} (h : Sfs w4 W7 A wx) (hb : Below wx.heap.size wx wy) : Sfs w4 W7 A wy :=
  ⟨h.b4.trans (hb.mono h.b4.size), h.kp.trans (Kp.of_below (S := fun _ => False) hb) (fun _ _ e => e.elim)⟩
theorem Sfs.grow {w4 W7 wx wy : World} {A : Nat} {own : Option Nat} (h : Sfs w4 W7 A wx) (hg : wx.grownBy wy own) (ho : ∀ q, own = some q → q = A ∨ W7.heap.size ≤ q) (hA : w4.heap.size ≤ A) (h7 : w4.heap.size ≤ W7.heap.size) : Sfs w4 W7 A wy :=
  ⟨h.b4.trans ((kp_grown hg).below h.b4.size (fun q e => by rcases ho q e with e | e <;> omega)), h.kp.trans (kp_grown hg) (fun q _ e => ho q e)⟩
/-- A row of names that the call makes. -/
structure Srw (A N7 : Nat) (v : Value) (L : List ByteArray) (wx : World) : Prop where
  o : wx.ownsRow A 9 1 v L.length (gst L)
  p : ∀ q, v.ownBlock = some q → q = A ∨ N7 ≤ q
  s : ∀ x ∈ L, x.size ≤ 140737488351232
theorem Srw.next {A N7 : Nat} {v : Value} {L : List ByteArray} {wx wy : World} (h : Srw A N7 v L wx) (hb : Below wx.heap.size wx wy) : Srw A N7 v L wy := ⟨(Kp.of_below (S := fun _ => False) hb).owns h.o (fun _ _ e => e), h.p, h.s⟩
theorem Srw.kp {A N7 : Nat} {v : Value} {L : List ByteArray} {wx wy : World} {S : Nat → Prop} (h : Srw A N7 v L wx) (hk : Kp S wx wy) (hs : ∀ q, v.ownBlock = some q → ¬ S q) : Srw A N7 v L wy := ⟨hk.owns h.o hs, h.p, h.s⟩
theorem Srw.ssl {A N7 : Nat} {v : Value} {L : List ByteArray} {wx : World} (h : Srw A N7 v L wx) (hm : L.length ≤ 140737488351232) : SSl wx v L := by
  refine ssl_gsl (own_gsl (L := L.map fun s => #[Value.string s]) (by rw [List.length_map]; exact h.o) (fun c hc => ?_) (by rw [List.length_map]) hm (fun i x c hx hc => ?_)) h.s
  · obtain ⟨s, _, rfl⟩ := List.mem_map.1 hc
    rfl
  · rw [List.getElem?_map, hx] at hc
    exact (Option.some.inj hc).symm
theorem Srw.nil (A N7 : Nat) (wx : World) : Srw A N7 (.slice none 0 0) [] wx := ⟨World.ownsRow_nil _ _ _ _, fun _ e => (by cases e), fun _ h => (by cases h)⟩
/-- append of one name. -/
theorem Srw.law {A N7 g : Nat} {a0 : Option Addr} {n0 c0 : Nat} {L : List ByteArray} {wx : World} {x : ByteArray} (h : Srw A N7 (.slice a0 n0 c0) L wx) (hx : x.size ≤ 140737488351232) (hlen : L.length ≤ 1000000) (hA : A ≤ wx.heap.size) (h7 : N7 ≤ wx.heap.size) (hg : wx.heap[g]? = some (.cells #[.string x] 9 (0, 0))) {ops : Array Oper} {rest : List Oper} {o : Oper} {ac : Act} {Q : Exit → Act → World → Prop} {s y : Operand} (h1 : o.guard = none) (h2 : o.op = .call { callee := .builtin .append, args := #[s, y], argTypes := #[27, 27] }) (h3 : ac.eval s = .slice a0 n0 c0) (h4 : ac.eval y = .slice (some ⟨g, 0, none⟩) 1 1)
    (h5 : ∀ a9 n9 c9 w', Hid (Srw A N7 (.slice a9 n9 c9) (L ++ [x]) w' ∧ wx.grownBy w' (Value.slice a0 n0 c0).ownBlock ∧ ((Value.slice a9 n9 c9).ownBlock = (Value.slice a0 n0 c0).ownBlock ∨ (Value.slice a9 n9 c9).ownBlock = some wx.heap.size)) → wpList Tryd.prog ops Q rest (ac.put o.dst (.slice a9 n9 c9)) w') : wpList Tryd.prog ops Q (o :: rest) ac wx := by
  have ho : wx.ownsRow A 9 1 (.slice a0 n0 c0) (L.map fun s => #[Value.string s]).length (gfl (L.map fun s => #[Value.string s])) := by rw [List.length_map]; exact h.o
  refine append_g infoS3 Tryd.underlying27 rfl (by decide) (by decide) h1 h2 h3 ho h4 hg rfl (fun u hu => by simp at hu; rw [hu]; rfl) (by rw [List.length_map]; exact hlen) hA (fun v' w' h6 h7' h8 => ?_)
  rw [List.length_map] at h6
  obtain ⟨a9, c9, hv9, _⟩ := own_formG h6
  subst hv9
  refine h5 _ _ _ w' ⟨⟨?_, fun q e => ?_, fun z hz => ?_⟩, h7', h8⟩
  · have e : gst (L ++ [x]) = gfl ((L.map fun s => #[Value.string s]) ++ [#[Value.string x]]) := by unfold gst; rw [List.map_append]; rfl
    rw [e, List.length_append]
    exact h6
  · rcases h8 with h8 | h8
    · rw [h8] at e
      exact h.p q e
    · rw [h8] at e
      exact .inr (by rw [← Option.some.inj e]; exact h7)
  · rcases List.mem_append.1 hz with hz | hz
    · exact h.s z hz
    · rw [List.mem_singleton.1 hz]; exact hx
/-- The row of built-in names, as a literal lays it. -/
def o9c : Array Value := #[.string ⟨#[97, 110, 121]⟩, .string ⟨#[110, 117, 108, 108]⟩, .string ⟨#[98, 111, 111, 108]⟩, .string ⟨#[105, 110, 116]⟩, .string ⟨#[102, 108, 111, 97, 116]⟩, .string ⟨#[115, 105, 110, 103, 108, 101]⟩, .string ⟨#[116, 101, 120, 116]⟩, .string ⟨#[98, 121, 116, 101, 115]⟩, .string ⟨#[108, 105, 110, 107]⟩]
theorem o9_at : ∀ (i : Nat) (x : ByteArray), own9[i]? = some x → o9c[i]? = some (.string x) := fun i x h => by
  rcases i with _ | _ | _ | _ | _ | _ | _ | _ | _ | i
  all_goals first
    | (obtain rfl := Option.some.inj h; rfl)
    | (simp [own9, owns] at h)
theorem own9_len : own9.length = 9 := rfl
theorem own9_short : ∀ x ∈ own9, x.size ≤ 140737488351232 := by
  have h : (own9.all fun x => decide (x.size ≤ 140737488351232)) = true := by decide +kernel
  exact fun x hx => of_decide_eq_true (List.all_eq_true.1 h x hx)
theorem fll_step (F : List ByteArray) (l : List Tp) (i : Nat) (t : Tp) (h : l[i]? = some t) : fll F (l.take (i + 1)) = fll F (l.take i) ++ (if memb F t.n = true then [t.n] else []) := by
  unfold fll
  rw [takeP l i t h, List.filter_append, List.map_append]
  congr 1
  by_cases hm : memb F t.n = true
  · rw [if_pos hm, List.filter_cons_of_pos (by simpa using hm)]
    rfl
  · rw [if_neg hm, List.filter_cons_of_neg (by simpa using hm)]
    rfl
theorem fll_short {F : List ByteArray} {l : List Tp} {i : Nat} : (fll F (l.take i)).length ≤ i := by
  unfold fll
  rw [List.length_map]
  have h1 := List.length_filter_le (fun t : Tp => memb F t.n) (l.take i)
  have h2 : (l.take i).length ≤ i := by rw [List.length_take]; omega
  omega
end
end Go.Proofs.YtnpjmanagecpkaaDoor
