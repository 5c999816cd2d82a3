import Derived.Test.YtagkogpjckjobaaGreatDoorJk
import Derived.Test.YtagkogpjckjobaaGreatDoorJd
import Derived.Test.YtagkogpjckjobaaGreatDoorJc
import Derived.Test.YtagkogpjckjobaaGreatDoorJa
import Derived.Test.YtagkogpjckjobaaGreatDoorJb
import Derived.Laws.AppendOwnNone
namespace Go.Proofs.YtagkogpjckjobaaGreatDoor
section
open Go.RowKit Go
/-! ### begun: the list that it asks about -/
def pnm : ByteArray := ⟨#[112, 97, 105, 114]⟩
def lnm : ByteArray := ⟨#[108, 111, 111, 112]⟩
def nnm : ByteArray := ⟨#[110, 111, 110, 101]⟩
def pfs : List Fd := [⟨⟨#[108, 101, 102, 116]⟩, ⟨#[108]⟩, ⟨⟨#[105, 110, 116]⟩, false⟩, false⟩, ⟨⟨#[114, 105, 103, 104, 116]⟩, ⟨#[114]⟩, ⟨⟨#[112, 97, 105, 114]⟩, true⟩, false⟩]
def prT (nm : ByteArray) : List Tp := [⟨pnm, 5, 0, 0, zrf, pfs, [], []⟩, ⟨lnm, 3, 1, 2, ⟨nm, false⟩, [], [], []⟩]
theorem pr_chk : chk11 (prT lnm) = (0, 0) := by decide +kernel
theorem pr_bad : chk11 (prT nnm) = (114, 1) := by decide +kernel
theorem pr_fnd : fnd (prT lnm) pnm = (⟨pnm, 5, 0, 0, zrf, pfs, [], []⟩, true) := by
  have h : plc (prT lnm) pnm = some 0 := by decide +kernel
  unfold fnd
  rw [h]
  rfl
theorem pr_shrt (nm : ByteArray) : Shrt (prT nm) := by
  intro t ht
  unfold prT at ht
  rcases List.mem_cons.1 ht with rfl | ht
  · simp [pfs]
  · rw [List.mem_singleton.1 ht]
    simp
theorem pas1_memL {L : List ByteArray} {t : Tp} {x : ByteArray} (h : x ∈ L) : x ∈ pas1 L t := by
  unfold pas1
  split
  · exact putL_mem.2 (.inr h)
  · exact h
theorem pas_memL : ∀ (ts : List Tp) (L : List ByteArray) (x : ByteArray), x ∈ L → x ∈ pas L ts
  | [], _, _, h => h
  | t :: r, L, x, h => pas_memL r (pas1 L t) x (pas1_memL h)
theorem itr_onm (l : List Tp) : ∀ (k : Nat) (x : ByteArray), x ∈ onm → x ∈ itr l k
  | 0, _, h => h
  | k + 1, x, h => pas_memL l (itr l k) x (itr_onm l k x h)
theorem pr_pair {k : Nat} (h : (itr (prT lnm) (k + 1)).length ≤ (itr (prT lnm) k).length) : memb (itr (prT lnm) (k + 1)) pnm = true := by
  refine memb_iff.2 ((itr_closed _ _ h).2 ⟨pnm, 5, 0, 0, zrf, pfs, [], []⟩ (List.mem_cons_self ..) ?_)
  exact rulb_mono (L := onm) (fun x hx => itr_onm _ _ x hx) (by decide +kernel)
theorem pr_loop (k : Nat) : memb (itr (prT lnm) k) lnm = false := by
  cases hm : memb (itr (prT lnm) k) lnm with
  | false => rfl
  | true =>
    have h := itr_least (prT lnm) (M := pnm :: onm) (fun x hx => List.mem_cons_of_mem _ hx) (fun t ht hr => ?_) k lnm (memb_iff.1 hm)
    · exact absurd (memb_iff.2 h) (by decide +kernel)
    · unfold prT at ht
      rcases List.mem_cons.1 ht with rfl | ht
      · exact List.mem_cons_self ..
      · rw [List.mem_singleton.1 ht] at hr
        exact absurd hr (by decide +kernel)
def pfc : Array Value := #[.string ⟨#[108, 101, 102, 116]⟩, .string ⟨#[108]⟩, .string ⟨#[105, 110, 116]⟩, .bool false, .bool false, .string ⟨#[114, 105, 103, 104, 116]⟩, .string ⟨#[114]⟩, .string ⟨#[112, 97, 105, 114]⟩, .bool true, .bool false]
def ptc (f : Nat) (nm : ByteArray) : Array Value := #[.string ⟨#[112, 97, 105, 114]⟩, .int .i64 5, .int .i64 0, .int .i64 0, .string ⟨#[]⟩, .bool false, .slice (some ⟨f, 0, none⟩) 2 2, .slice none 0 0, .slice none 0 0, .string ⟨#[108, 111, 111, 112]⟩, .int .i64 3, .int .i64 1, .int .i64 2, .string nm, .bool false, .slice none 0 0, .slice none 0 0, .slice none 0 0]
theorem ssl_nil (w : World) : SSl w (.slice none 0 0) [] := ⟨⟨none, 0, rfl, ⟨Nat.le_refl _, fun _ => rfl⟩, .inl rfl⟩, Nat.zero_le _, fun _ h => by cases h⟩
/-- The list in memory. -/
structure Prw (w : World) (f g : Nat) (nm : ByteArray) : Prop where
  hf : w.heap[f]? = some (.cells pfc 80 (0, 0))
  hg : w.heap[g]? = some (.cells (ptc f nm) 29 (0, 0))
  n : f ≠ g
theorem Prw.next {w w' : World} {f g : Nat} {nm : ByteArray} (h : Prw w f g nm) (hb : Below w.heap.size w w') : Prw w' f g nm := ⟨(hb.block _ (blk_lt h.hf)).trans h.hf, (hb.block _ (blk_lt h.hg)).trans h.hg, h.n⟩
theorem Prw.set {w : World} {f g : Nat} {nm nm' : ByteArray} (h : Prw w f g nm) : Prw (w.setCell ⟨g, 13, none⟩ (.string nm')) f g nm' := ⟨blk_other 13 _ h.hf h.n, blk_set 13 _ h.hg, h.n⟩
theorem Prw.tsl {w : World} {f g : Nat} {nm : ByteArray} (h : Prw w f g nm) (hn : nm.size ≤ 140737488351232) : TSl w (.slice (some ⟨g, 0, none⟩) 2 2) (prT nm) := by
  have hF : FSl w (.slice (some ⟨f, 0, none⟩) 2 2) pfs := by
    refine ⟨⟨some ⟨f, 0, none⟩, 2, rfl, ⟨Nat.le_refl _, fun e => by cases e⟩, .inr ⟨f, 0, rfl, fun i x hi => ?_⟩⟩, by decide⟩
    rcases i with _ | _ | i
    · have e : x = ⟨⟨#[108, 101, 102, 116]⟩, ⟨#[108]⟩, ⟨⟨#[105, 110, 116]⟩, false⟩, false⟩ := (Option.some.inj hi).symm
      subst e
      refine ⟨_, ⟨rfl, by decide, by decide, by decide⟩, fun j u hj => ?_⟩
      rcases j with _ | _ | _ | _ | _ | j
      all_goals first
        | exact blk_cell h.hf hj
        | (exact absurd hj (by simp [fdc]))
    · have e : x = ⟨⟨#[114, 105, 103, 104, 116]⟩, ⟨#[114]⟩, ⟨⟨#[112, 97, 105, 114]⟩, true⟩, false⟩ := (Option.some.inj hi).symm
      subst e
      refine ⟨_, ⟨rfl, by decide, by decide, by decide⟩, fun j u hj => ?_⟩
      rcases j with _ | _ | _ | _ | _ | j
      all_goals first
        | exact blk_cell h.hf hj
        | (exact absurd hj (by simp [fdc]))
    · simp [pfs] at hi
  refine ⟨⟨some ⟨g, 0, none⟩, 2, rfl, ⟨Nat.le_refl _, fun e => by cases e⟩, .inr ⟨g, 0, rfl, fun i x hi => ?_⟩⟩, by simp [prT]⟩
  rcases i with _ | _ | i
  · have e : x = ⟨pnm, 5, 0, 0, zrf, pfs, [], []⟩ := (Option.some.inj hi).symm
    subst e
    refine ⟨_, ⟨⟨_, _, _, rfl, hF, GSl.nil, ssl_nil w⟩, ⟨by decide, by decide, by decide, by decide, by decide⟩⟩, fun j u hj => ?_⟩
    rcases j with _ | _ | _ | _ | _ | _ | _ | _ | _ | j
    all_goals first
      | exact blk_cell h.hg hj
      | (exact absurd hj (by simp [tpc]))
  · have e : x = ⟨lnm, 3, 1, 2, ⟨nm, false⟩, [], [], []⟩ := (Option.some.inj hi).symm
    subst e
    refine ⟨_, ⟨⟨_, _, _, rfl, GSl.nil, GSl.nil, ssl_nil w⟩, ⟨(by decide : lnm.size ≤ 140737488351232), hn, (by decide : -9223372036854775808 ≤ (3 : Int) ∧ (3 : Int) ≤ 9223372036854775807), (by decide : -9223372036854775808 ≤ (1 : Int) ∧ (1 : Int) ≤ 9223372036854775807), (by decide : -9223372036854775808 ≤ (2 : Int) ∧ (2 : Int) ≤ 9223372036854775807)⟩⟩, fun j u hj => ?_⟩
    rcases j with _ | _ | _ | _ | _ | _ | _ | _ | _ | j
    all_goals first
      | exact blk_cell h.hg hj
      | (exact absurd hj (by simp [tpc]))
  · simp [prT] at hi
theorem alloc4_at (w : World) (o1 o2 o3 o4 : Obj) : ((((w.alloc o1).alloc o2).alloc o3).alloc o4).heap[w.heap.size + 1 + 1]? = some o3 ∧ ((((w.alloc o1).alloc o2).alloc o3).alloc o4).heap[w.heap.size + 1 + 1 + 1]? = some o4 ∧ Below w.heap.size w ((((w.alloc o1).alloc o2).alloc o3).alloc o4) := by
  have e1 : (w.alloc o1).heap.size = w.heap.size + 1 := by simp
  have e2 : ((w.alloc o1).alloc o2).heap.size = w.heap.size + 1 + 1 := by rw [← e1]; simp
  have e3 : (((w.alloc o1).alloc o2).alloc o3).heap.size = w.heap.size + 1 + 1 + 1 := by rw [← e2]; simp
  have h3 := heap_alloc_new ((w.alloc o1).alloc o2) o3
  have h4 := heap_alloc_new (((w.alloc o1).alloc o2).alloc o3) o4
  rw [e2] at h3
  rw [e3] at h4
  exact ⟨blk_alloc _ h3, h4, (((below_alloc4 w o1).alloc (by omega) _).alloc (by omega) _).alloc (by omega) _⟩
set_option maxRecDepth 1000000 in
set_option maxHeartbeats 1000000 in
theorem pair_any (w : World) : Calls Tryz.prog 15 #[] w fun e w' => ∃ f g, e = .returned (.slice (some ⟨g, 0, none⟩) 2 2) ∧ Hid (Prw w' f g lnm ∧ w.heap.size ≤ f ∧ w.heap.size ≤ g ∧ Below w.heap.size w w') := by
  go_enter Tryz.func15, Tryz.ntmps15
  go_wp2_with fail
  go_ret
  obtain ⟨h1, h2, h3⟩ := alloc4_at w (.cells #[.string ⟨#[108, 101, 102, 116]⟩, .string ⟨#[108]⟩, .string ⟨#[105, 110, 116]⟩, .bool false, .bool false] 80) (.cells #[.string ⟨#[114, 105, 103, 104, 116]⟩, .string ⟨#[114]⟩, .string ⟨#[112, 97, 105, 114]⟩, .bool true, .bool false] 80) (.cells pfc 80) (.cells (ptc (w.heap.size + 1 + 1) lnm) 29)
  exact ⟨w.heap.size + 1 + 1, w.heap.size + 1 + 1 + 1, rfl, ⟨h1, h2, by omega⟩, by omega, by omega, h3⟩
end
section
open Go.RowKit Go
set_option maxRecDepth 1000000 in
theorem num11_any (n : Int) (w : World) : Calls Tryz.prog 8 #[.int .i64 n] w fun e w' => e = .returned (.int .i64 n) ∧ w' = w := by
  go_enter Tryz.func8, Tryz.ntmps8
  go_wp2_with fail
  go_ret
  exact ⟨rfl, rfl⟩
theorem otb_kp {w wx wy : World} {g : Nat} (h : Otb w) (hb : Below w.heap.size w wx) (hg : w.heap.size ≤ g) (hk : Kp (fun q => q = g) wx wy) : Otb wy := ⟨fun j u hj => by
  have h1 := h.c j u hj
  have hlt := World.block_lt_of_cell? w _ h1
  refine hk.cell (keep_below hb _ _ h1) (fun e => ?_)
  have e' : 0 = g := e
  have hlt' : 0 < w.heap.size := hlt
  omega⟩
set_option maxRecDepth 1000000 in
set_option maxHeartbeats 4000000 in
theorem begun11_any (w : World) (hT : Tabs w) (hO : Otb w) : Calls Tryz.prog 4 #[] w fun e w' => e = .returned (.bool true) ∧ Below w.heap.size w w' := by
  have HT : Hid (∀ wy, Below w.heap.size w wy → Tabs wy) := fun wy hb => hT.next hb
  have HO : Hid (∀ wy, Below w.heap.size w wy → Otb wy) := fun wy hb => hO.next (keep_below hb)
  have HOT := hide hO
  have HNU := hide (fun n W => num11_any n W)
  clear hT hO
  go_enter Tryz.func4, Tryz.ntmps4
  go_wp2_with fail
  refine (pair_any w).mono ?_
  rintro e w1 ⟨f, g, rfl, hP⟩
  have HP1 := hide hP.out.1
  have HN := hide (And.intro hP.out.2.1 hP.out.2.2.1)
  have HB1 := hide hP.out.2.2.2
  have HC1 : Hid (Calls Tryz.prog 16 #[.slice (some ⟨g, 0, none⟩) 2 2] w1 fun e w' => e = .returned (.tuple #[.int .i64 0, .int .i64 0]) ∧ Below w1.heap.size w1 w') := by
    have h := check11_any w1 (HT.out w1 HB1.out) (HO.out w1 HB1.out) _ _ (HP1.out.tsl (by decide)) (pr_shrt _)
    rw [pr_chk] at h
    exact h
  clear hP
  go_wp2_with fail
  refine HC1.out.mono ?_
  rintro e w2 ⟨rfl, hb2⟩
  have HB2 : Hid (Below w.heap.size w w2) := HB1.out.trans (hb2.mono HB1.out.size)
  have HP2 := hide (HP1.out.next hb2)
  clear HC1 HP1 HB1 hb2
  have HC2 : Hid (Calls Tryz.prog 6 #[.slice (some ⟨g, 0, none⟩) 2 2] w2 fun e w' => ∃ t, e = .returned (.tuple #[.pointer (some ⟨t, 0, none⟩), .int .i64 0]) ∧ Hid (w2.heap.size ≤ t ∧ Tbm w' w2.heap.size t (prT lnm) 0 (.map none) ∧ Below w2.heap.size w2 w')) := by
    have h := open_any w2 (HT.out w2 HB2.out) (HO.out w2 HB2.out) _ _ (HP2.out.tsl (by decide)) (pr_shrt _)
    rw [pr_chk] at h
    refine h.mono ?_
    rintro e w' ⟨⟨vp, rfl, _, h2⟩, h3⟩
    obtain ⟨t, rfl, h4, h5⟩ := h2 rfl
    exact ⟨t, rfl, h4, h5, h3⟩
  go_wp2_with fail
  refine HC2.out.mono ?_
  rintro e w3 ⟨t, rfl, hP⟩
  have HTG := hide hP.out.1
  have HTB := hide hP.out.2.1
  have hb3 := hP.out.2.2
  have HB3 : Hid (Below w.heap.size w w3) := HB2.out.trans (hb3.mono HB2.out.size)
  have HP3 := hide (HP2.out.next hb3)
  have HGL : Hid (g < w2.heap.size) := blk_lt HP2.out.hg
  clear HC2 HP2 hP hb3
  go_wp2_with (first
    | (go_at_call 8
       refine (HNU.out _ _).mono ?_
       rintro e wq ⟨rfl, rfl⟩))
  have HC3 : Hid (Calls Tryz.prog 17 #[.pointer (some ⟨t, 0, none⟩), .string ⟨#[112, 97, 105, 114]⟩] wq fun e w' => ∃ c, e = .returned (.tuple #[.agg c, .bool true]) ∧ Hid (Tpi w' ⟨pnm, 5, 0, 0, zrf, pfs, [], []⟩ c ∧ Below wq.heap.size wq w')) := by
    have h := tfind_any wq (HO.out wq HB3.out) t (prT lnm) 0 (.map none) HTB.out.tbl (pr_shrt _) pnm (by decide)
    rw [pr_fnd] at h
    exact h
  refine HC3.out.mono ?_
  rintro e w4 ⟨c, rfl, hP⟩
  have hb4 := hP.out.2
  obtain ⟨⟨vf, vc, vw, hc, ⟨⟨af, cf, hvf, -, -⟩, -⟩, ⟨⟨ac, cc, hvc, -, -⟩, -⟩, ⟨⟨aw, cw, hvw, -, -⟩, -, -⟩⟩, -⟩ := hP.out.1
  subst hvf
  subst hvc
  subst hvw
  have hc' : c = #[.string ⟨#[112, 97, 105, 114]⟩, .int .i64 5, .int .i64 0, .int .i64 0, .string ⟨#[]⟩, .bool false, .slice af 2 cf, .slice ac 0 cc, .slice aw 0 cw] := hc
  clear hP hc HC3
  subst hc'
  have hb5 := below_alloc4 w4 (.cells #[.string ⟨#[112, 97, 105, 114]⟩, .int .i64 5, .int .i64 0, .int .i64 0, .string ⟨#[]⟩, .bool false, .slice af 2 cf, .slice ac 0 cc, .slice aw 0 cw] 29)
  have hx5 := heap_alloc_new w4 (.cells #[.string ⟨#[112, 97, 105, 114]⟩, .int .i64 5, .int .i64 0, .int .i64 0, .string ⟨#[]⟩, .bool false, .slice af 2 cf, .slice ac 0 cc, .slice aw 0 cw] 29)
  have hp5 := (HP3.out.next hb4).next hb5
  have g13 := blk_cell (j := 13) (v := .string lnm) hp5.hg rfl
  have z13 := blk_frozen 13 hp5.hg
  have hbx : Below w.heap.size w (w4.alloc (.cells #[.string ⟨#[112, 97, 105, 114]⟩, .int .i64 5, .int .i64 0, .int .i64 0, .string ⟨#[]⟩, .bool false, .slice af 2 cf, .slice ac 0 cc, .slice aw 0 cw] 29)) := (HB3.out.trans (hb4.mono HB3.out.size)).trans (hb5.mono (Nat.le_trans HB3.out.size hb4.size))
  have hkx : Kp (fun q => q = g) (w4.alloc (.cells #[.string ⟨#[112, 97, 105, 114]⟩, .int .i64 5, .int .i64 0, .int .i64 0, .string ⟨#[]⟩, .bool false, .slice af 2 cf, .slice ac 0 cc, .slice aw 0 cw] 29)) ((w4.alloc (.cells #[.string ⟨#[112, 97, 105, 114]⟩, .int .i64 5, .int .i64 0, .int .i64 0, .string ⟨#[]⟩, .bool false, .slice af 2 cf, .slice ac 0 cc, .slice aw 0 cw] 29)).setCell ⟨g, 13, none⟩ (.string ⟨#[110, 111, 110, 101]⟩)) := (Kp.refl (fun q => q = g) _).setCell _ _ (fun _ => rfl)
  have HP6 : Hid (Prw ((w4.alloc (.cells #[.string ⟨#[112, 97, 105, 114]⟩, .int .i64 5, .int .i64 0, .int .i64 0, .string ⟨#[]⟩, .bool false, .slice af 2 cf, .slice ac 0 cc, .slice aw 0 cw] 29)).setCell ⟨g, 13, none⟩ (.string ⟨#[110, 111, 110, 101]⟩)) f g nnm) := hp5.set
  have HB6 : Hid (Below w.heap.size w ((w4.alloc (.cells #[.string ⟨#[112, 97, 105, 114]⟩, .int .i64 5, .int .i64 0, .int .i64 0, .string ⟨#[]⟩, .bool false, .slice af 2 cf, .slice ac 0 cc, .slice aw 0 cw] 29)).setCell ⟨g, 13, none⟩ (.string ⟨#[110, 111, 110, 101]⟩))) := hbx.trans (hkx.below hbx.size (fun q e => by rw [e]; exact HN.out.2))
  have HTB6 : Hid (Tbm ((w4.alloc (.cells #[.string ⟨#[112, 97, 105, 114]⟩, .int .i64 5, .int .i64 0, .int .i64 0, .string ⟨#[]⟩, .bool false, .slice af 2 cf, .slice ac 0 cc, .slice aw 0 cw] 29)).setCell ⟨g, 13, none⟩ (.string ⟨#[110, 111, 110, 101]⟩)) w2.heap.size t (prT lnm) 0 (.map none)) := ((HTB.out.next hb4).next hb5).kp hkx (fun q e => by rw [e]; exact HGL.out) HTG.out
  have HX6 : Hid (((w4.alloc (.cells #[.string ⟨#[112, 97, 105, 114]⟩, .int .i64 5, .int .i64 0, .int .i64 0, .string ⟨#[]⟩, .bool false, .slice af 2 cf, .slice ac 0 cc, .slice aw 0 cw] 29)).setCell ⟨g, 13, none⟩ (.string ⟨#[110, 111, 110, 101]⟩)).heap[w4.heap.size]? = some (.cells #[.string ⟨#[112, 97, 105, 114]⟩, .int .i64 5, .int .i64 0, .int .i64 0, .string ⟨#[]⟩, .bool false, .slice af 2 cf, .slice ac 0 cc, .slice aw 0 cw] 29 (0, 0))) := blk_other 13 _ hx5 (fun e => by have h1 := blk_lt (HP3.out.next hb4).hg; omega)
  clear hb4 hb5 hx5 hp5 hbx hkx HTB HP3 HB3
  go_wp2_with fail
  clear g13 z13
  generalize (w4.alloc (.cells #[.string ⟨#[112, 97, 105, 114]⟩, .int .i64 5, .int .i64 0, .int .i64 0, .string ⟨#[]⟩, .bool false, .slice af 2 cf, .slice ac 0 cc, .slice aw 0 cw] 29)).setCell ⟨g, 13, none⟩ (.string ⟨#[110, 111, 110, 101]⟩) = w6 at *
  generalize w4.heap.size = x at *
  have HC4 : Hid (Calls Tryz.prog 16 #[.slice (some ⟨g, 0, none⟩) 2 2] w6 fun e w' => e = .returned (.tuple #[.int .i64 114, .int .i64 1]) ∧ Below w6.heap.size w6 w') := by
    have h := check11_any w6 (HT.out w6 HB6.out) (HO.out w6 HB6.out) _ _ (HP6.out.tsl (by decide)) (pr_shrt _)
    rw [pr_bad] at h
    exact h
  refine HC4.out.mono ?_
  rintro e w7 ⟨rfl, hb7⟩
  have HB7 : Hid (Below w.heap.size w w7) := HB6.out.trans (hb7.mono HB6.out.size)
  have x1 : w7.cell? ⟨x, 1, none⟩ = some (.int .i64 5) := blk_cell (j := 1) ((hb7.block _ (blk_lt HX6.out)).trans HX6.out) rfl
  obtain ⟨vt, B, hq1, hq2⟩ := (HTB6.out.next hb7).e
  have hwt : w.heap.size ≤ t := Nat.le_trans HB2.out.size HTG.out
  have HC5 : Hid (Calls Tryz.prog 18 #[.pointer (some ⟨t, 0, none⟩), .string ⟨#[112, 97, 105, 114]⟩] w7 fun e w' => e = .returned (.bool true) ∧ Hid (Below w.heap.size w w' ∧ Calls Tryz.prog 18 #[.pointer (some ⟨t, 0, none⟩), .string ⟨#[108, 111, 111, 112]⟩] w' fun e w'' => e = .returned (.bool false) ∧ Below w.heap.size w w'')) := by
    refine (tfilled_first w7 t vt B (prT lnm) (.map none) pnm (by decide) hq1 (fun wy hk => (hq2 wy (hk.mono (fun _ _ e => .inr e))).t) (fun wy hk => otb_kp HOT.out HB7.out hwt hk) (by decide)).mono ?_
    rintro e w8 ⟨M, k, rfl, hP⟩
    obtain ⟨h1, ⟨n, h2⟩, h3, h4, _⟩ := hP.out
    have hb8 : Below w.heap.size w w8 := HB7.out.trans (h4.below HB7.out.size (fun q e => by rw [e]; exact hwt))
    refine ⟨by rw [pr_pair h1], hb8, (tfilled_again w8 t vt B M n _ lnm (by decide) h3 h2).mono ?_⟩
    rintro e w9 ⟨rfl, hb9⟩
    exact ⟨by rw [pr_loop], hb8.trans (hb9.mono hb8.size)⟩
  clear HC4 HX6 HTB6 HP6 hb7 hq1 hq2 hwt HB6 HO HT HOT HN HTG HGL HB2 HB7
  go_wp2_with fail
  refine HC5.out.mono ?_
  rintro e w8 ⟨rfl, hP⟩
  clear HC5 x1
  go_wp2_with fail
  refine hP.out.2.mono ?_
  rintro e w9 ⟨rfl, hb9⟩
  have HB9 := hide hb9
  clear hb9 hP
  go_wp2_with (first
    | (go_at_call 8
       refine (HNU.out _ _).mono ?_
       rintro e wz ⟨rfl, rfl⟩))
  go_ret
  exact ⟨rfl, HB9.out⟩
end
section
open Go.RowKit Go
/-! ### has -/
end
section
open Go.RowKit Go
/-! ### can -/
end
section
open Go.RowKit Go
/-! ### SchemaFilled, plainly -/
def own9 : List ByteArray := owns.map (·.1)
def fll (F : List ByteArray) (l : List Tp) : List ByteArray := (l.filter fun t => memb F t.n).map (·.n)
def frd1 (all A : List ByteArray) (t : Tp) : List ByteArray := if (memb all t.n && (!memb A t.n && rulb A t)) = true then A ++ [t.n] else A
def frd (all A : List ByteArray) (l : List Tp) : List ByteArray := l.foldl (frd1 all) A
def frds (all : List ByteArray) (l : List Tp) : Nat → List ByteArray
  | 0 => own9
  | n + 1 => frd all (frds all l n) l
theorem own9_nodup : own9.Nodup := by decide +kernel
theorem onm_own9 : ∀ x, x ∈ onm ↔ x ∈ own9 := by
  have h1 : (onm.all fun x => memb own9 x) = true := by decide +kernel
  have h2 : (own9.all fun x => memb onm x) = true := by decide +kernel
  intro x
  exact ⟨fun h => memb_iff.1 (List.all_eq_true.1 h1 x h), fun h => memb_iff.1 (List.all_eq_true.1 h2 x h)⟩
theorem own9_ownK {x : ByteArray} (h : x ∈ own9) : (ownK x).isSome = true := by
  have h1 : (own9.all fun x => (ownK x).isSome) = true := by decide +kernel
  exact List.all_eq_true.1 h1 x h
/-- What a list that may be has. -/
structure Gdl (l : List Tp) : Prop where
  own : ∀ t ∈ l, t.n ∉ own9
  one : ∀ (i j : Nat) (t u : Tp), l[i]? = some t → l[j]? = some u → t.n = u.n → i = j
theorem plc_first : ∀ (l : List Tp) (i : Nat) (t : Tp), l[i]? = some t → ∃ j, plc l t.n = some j ∧ j ≤ i ∧ ∃ u, l[j]? = some u ∧ u.n = t.n
  | [], _, _, h => by cases h
  | u :: r, 0, t, h => by
    have e : u = t := by simpa using h
    subst e
    exact ⟨0, by unfold plc; rw [if_pos rfl], Nat.le_refl _, u, rfl, rfl⟩
  | u :: r, i + 1, t, h => by
    by_cases e : u.n = t.n
    · exact ⟨0, by unfold plc; rw [if_pos e], by omega, u, rfl, e⟩
    · obtain ⟨j, h1, h2, x, h3, h4⟩ := plc_first r i t (by simpa using h)
      exact ⟨j + 1, by unfold plc; rw [if_neg e, h1]; rfl, by omega, x, by simpa using h3, h4⟩
theorem lk1_all {f : Nat → Tp → Nat} : ∀ (l : List Tp) (o : Nat), lk1 f o l = none → ∀ i t, l[i]? = some t → f (o + i) t = 0
  | [], _, _, _, _, h => by cases h
  | u :: r, o, h, i, t, ht => by
    unfold lk1 at h
    by_cases h0 : f o u = 0
    · rw [if_neg (fun e => e h0)] at h
      rcases i with _ | i
      · have e : u = t := by simpa using ht
        subst e
        exact h0
      · have := lk1_all r (o + 1) h i t (by simpa using ht)
        rw [show o + (i + 1) = o + 1 + i by omega]
        exact this
    · rw [if_pos h0] at h
      cases h
theorem chk_gdl {l : List Tp} (h : (chk11 l).1 = 0) : Gdl l ∧ l.length ≤ 64 := by
  have hlen : ¬ 64 < l.length := fun e => by
    rw [chk_many e] at h
    cases h
  have haln : ∀ i t, l[i]? = some t → aln l i t = 0 := fun i t ht => by
    have h1 : lk1 (aln l) 0 l = none := by
      cases hk : lk1 (aln l) 0 l with
      | none => rfl
      | some r =>
        unfold chk11 at h
        rw [if_neg hlen, hk] at h
        have : ∀ (l' : List Tp) (o : Nat), lk1 (aln l) o l' = some r → r.1 ≠ 0 := fun l' => by
          induction l' with
          | nil => intro o h; cases h
          | cons u q ih =>
            intro o h
            unfold lk1 at h
            by_cases h0 : aln l o u = 0
            · rw [if_neg (fun e => e h0)] at h
              exact ih _ h
            · rw [if_pos h0] at h
              have e := Option.some.inj h
              rw [← e]
              exact h0
        exact absurd h (this l 0 hk)
    have := lk1_all l 0 h1 i t ht
    rw [Nat.zero_add] at this
    exact this
  have hname : ∀ i t, l[i]? = some t → (ownK t.n).isSome = false ∧ ¬ (plc l t.n).getD 0 < i := fun i t ht => by
    have h1 := haln i t ht
    unfold aln at h1
    by_cases h2 : (!nbl t.n || (ownK t.n).isSome || decide ((plc l t.n).getD 0 < i)) = true
    · rw [if_pos h2] at h1
      cases h1
    · rw [Bool.or_eq_true, Bool.or_eq_true, not_or, not_or] at h2
      exact ⟨by simpa using h2.1.2, by simpa using h2.2⟩
  refine ⟨⟨fun t ht hm => ?_, fun i j t u hi hj e => ?_⟩, by omega⟩
  · obtain ⟨i, hi, e⟩ := List.getElem_of_mem ht
    have h1 := (hname i t (by rw [List.getElem?_eq_getElem hi, e])).1
    rw [own9_ownK hm] at h1
    cases h1
  · obtain ⟨a, ha, hai, x, hx, hxn⟩ := plc_first l i t hi
    have h1 := (hname i t hi).2
    have h2 := (hname j u hj).2
    rw [ha] at h1
    rw [← e, ha] at h2
    obtain ⟨b, hb, hbj, _⟩ := plc_first l j u hj
    rw [← e, ha] at hb
    have := Option.some.inj hb
    simp only [Option.getD_some] at h1 h2
    omega
theorem pas_why : ∀ (ts : List Tp) (L : List ByteArray) (x : ByteArray), x ∈ pas L ts → x ∈ L ∨ ∃ t ∈ ts, t.n = x ∧ rulb (pas L ts) t = true
  | [], _, _, h => .inl h
  | t :: r, L, x, h => by
    have e : pas L (t :: r) = pas (pas1 L t) r := rfl
    rw [e] at h ⊢
    rcases pas_why r (pas1 L t) x h with h1 | ⟨u, hu, hn, hr⟩
    · unfold pas1 at h1
      split at h1
      · next hr =>
        rcases putL_mem.1 h1 with rfl | h1
        · exact .inr ⟨t, List.mem_cons_self, rfl, rulb_mono (L := L) (fun y hy => pas_memL r _ y (pas1_memL hy)) hr⟩
        · exact .inl h1
      · exact .inl h1
    · exact .inr ⟨u, List.mem_cons_of_mem _ hu, hn, hr⟩
theorem itr_why (l : List Tp) : ∀ (k : Nat) (x : ByteArray), x ∈ itr l k → x ∈ onm ∨ ∃ t ∈ l, t.n = x ∧ rulb (itr l k) t = true
  | 0, _, h => .inl h
  | k + 1, x, h => by
    rcases pas_why l (itr l k) x h with h1 | h1
    · rcases itr_why l k x h1 with h2 | ⟨t, ht, hn, hr⟩
      · exact .inl h2
      · exact .inr ⟨t, ht, hn, rulb_mono (fun y hy => pas_memL l _ y hy) hr⟩
    · exact .inr h1
/-- The set that filled tells, of a list that may be. -/
structure Fls (l : List Tp) (F : List ByteArray) : Prop where
  own : ∀ x ∈ own9, x ∈ F
  why : ∀ x ∈ F, x ∈ own9 ∨ ∃ t ∈ l, t.n = x ∧ rulb F t = true
  cl : ∀ t ∈ l, rulb F t = true → t.n ∈ F
  least : ∀ M : List ByteArray, (∀ x ∈ own9, x ∈ M) → (∀ t ∈ l, rulb M t = true → t.n ∈ M) → ∀ x ∈ F, x ∈ M
theorem fls_itr {l : List Tp} {k : Nat} (h : (itr l (k + 1)).length ≤ (itr l k).length) : Fls l (itr l (k + 1)) :=
  ⟨fun x hx => itr_onm l (k + 1) x ((onm_own9 x).2 hx), fun x hx => (itr_why l (k + 1) x hx).imp (onm_own9 x).1 id, (itr_closed l k h).2, fun _ h0 hc x hx => itr_least l (fun y hy => h0 y ((onm_own9 y).1 hy)) hc (k + 1) x hx⟩
theorem gdl_eq {l : List Tp} (g : Gdl l) {t u : Tp} (ht : t ∈ l) (hu : u ∈ l) (e : t.n = u.n) : t = u := by
  obtain ⟨i, hi, ei⟩ := List.getElem_of_mem ht
  obtain ⟨j, hj, ej⟩ := List.getElem_of_mem hu
  have h := g.one i j t u (by rw [List.getElem?_eq_getElem hi, ei]) (by rw [List.getElem?_eq_getElem hj, ej]) e
  subst h
  rw [← ei, ← ej]
theorem fls_iff {l : List Tp} {F : List ByteArray} (g : Gdl l) (f : Fls l F) {t : Tp} (ht : t ∈ l) : rulb F t = true ↔ t.n ∈ F := by
  refine ⟨f.cl t ht, fun h => ?_⟩
  rcases f.why _ h with h1 | ⟨u, hu, hn, hr⟩
  · exact absurd h1 (g.own t ht)
  · rw [← gdl_eq g hu ht hn]
    exact hr
/-- What a round keeps. -/
structure Rdi (F : List ByteArray) (l : List Tp) (A : List ByteArray) : Prop where
  nd : A.Nodup
  sub : ∀ x ∈ A, x ∈ own9 ++ fll F l
  own : ∀ x ∈ own9, x ∈ A
theorem Rdi.one {F : List ByteArray} {l : List Tp} {A : List ByteArray} (h : Rdi F l A) (t : Tp) : Rdi F l (frd1 (fll F l) A t) := by
  unfold frd1
  split
  · next hc =>
    rw [Bool.and_eq_true, Bool.and_eq_true] at hc
    have hn : t.n ∉ A := fun e => by
      have := hc.2.1
      rw [memb_iff.2 e] at this
      cases this
    refine ⟨List.nodup_append.2 ⟨h.nd, by simp, fun a ha b hb e => ?_⟩, fun x hx => ?_, fun x hx => List.mem_append_left _ (h.own x hx)⟩
    · rw [List.mem_singleton.1 hb] at e
      exact hn (e ▸ ha)
    · rcases List.mem_append.1 hx with hx | hx
      · exact h.sub x hx
      · rw [List.mem_singleton.1 hx]
        exact List.mem_append_right _ (memb_iff.1 hc.1)
  · exact h
theorem Rdi.round {F : List ByteArray} {l : List Tp} : ∀ (ts : List Tp) {A : List ByteArray}, Rdi F l A → Rdi F l (frd (fll F l) A ts)
  | [], _, h => h
  | t :: r, _, h => Rdi.round r (h.one t)
theorem Rdi.all {F : List ByteArray} {l : List Tp} : ∀ n, Rdi F l (frds (fll F l) l n)
  | 0 => ⟨own9_nodup, fun _ h => List.mem_append_left _ h, fun _ h => h⟩
  | n + 1 => Rdi.round l (Rdi.all n)
end
section
open Go.RowKit Go
/-! ### Lists that may be, in another order, with one type more -/
/-- A list that may be. -/
structure Okl (l : List Tp) : Prop where
  m : ¬ 64 < l.length
  a : ∀ (i : Nat) (t : Tp), l[i]? = some t → aln l i t = 0
  r : ∀ (i : Nat) (t : Tp), l[i]? = some t → rng l t = 0
  t : ∀ (i : Nat) (t : Tp), l[i]? = some t → tgt l t = 0
theorem lk1_ne {f : Nat → Tp → Nat} : ∀ (l : List Tp) (o : Nat) (r : Nat × Nat), lk1 f o l = some r → r.1 ≠ 0
  | [], _, _, h => by cases h
  | t :: l, o, r, h => by
    unfold lk1 at h
    split at h
    · rename_i h0
      rw [← Option.some.inj h]
      exact h0
    · exact lk1_ne l (o + 1) r h
theorem okl_of {l : List Tp} (h : (chk11 l).1 = 0) : Okl l := by
  unfold chk11 at h
  split at h
  · exact absurd h (by decide)
  · rename_i h64
    cases h1 : lk1 (aln l) 0 l with
    | some r => rw [h1] at h; exact absurd h (lk1_ne _ _ _ h1)
    | none =>
      rw [h1] at h
      simp only at h
      cases h2 : lk1 (fun _ t => rng l t) 0 l with
      | some r => rw [h2] at h; exact absurd h (lk1_ne _ _ _ h2)
      | none =>
        rw [h2] at h
        simp only at h
        cases h3 : lk1 (fun _ t => tgt l t) 0 l with
        | some r => rw [h3] at h; exact absurd h (lk1_ne _ _ _ h3)
        | none =>
          refine ⟨h64, fun i t ht => ?_, fun i t ht => ?_, fun i t ht => ?_⟩
          · have := lk1_all l 0 h1 i t ht; rw [Nat.zero_add] at this; exact this
          · exact lk1_all l 0 h2 i t ht
          · exact lk1_all l 0 h3 i t ht
theorem okl_chk {l : List Tp} (h : Okl l) : chk11 l = (0, 0) := chk_ok h.m (fun k' j u hk hu => by
  rcases (show k' = 0 ∨ k' = 1 ∨ k' = 2 by omega) with rfl | rfl | rfl
  · exact h.a j u hu
  · exact h.r j u hu
  · exact h.t j u hu)
theorem Okl.fst {l : List Tp} (h : Okl l) : Fst l := aln_fst h.a
theorem Okl.gdl {l : List Tp} (h : Okl l) : Gdl l := (chk_gdl (by rw [okl_chk h])).1
theorem fnd_mem {l : List Tp} (g : Gdl l) {t : Tp} (ht : t ∈ l) : fnd l t.n = (t, true) := by
  obtain ⟨i, hi, e⟩ := List.getElem_of_mem ht
  obtain ⟨j, hj, _, u, hu, hn⟩ := plc_first l i t (by rw [List.getElem?_eq_getElem hi, e])
  rw [fnd_some hj hu, gdl_eq g (List.mem_of_getElem? hu) ht hn]
theorem plc_no {l : List Tp} {s : ByteArray} (h : ∀ t ∈ l, t.n ≠ s) : plc l s = none := by
  cases hp : plc l s with
  | none => rfl
  | some i =>
    obtain ⟨t, ht, hn⟩ := plc_lt hp
    exact absurd hn (h t (List.mem_of_getElem? ht))
/-- The same types in another order. -/
structure Alk (T U : List Tp) : Prop where
  gT : Gdl T
  gU : Gdl U
  mem : ∀ t, t ∈ T ↔ t ∈ U
  len : T.length = U.length
theorem Alk.fnd {T U : List Tp} (h : Alk T U) (s : ByteArray) : fnd T s = fnd U s := by
  by_cases hs : ∃ t ∈ T, t.n = s
  · obtain ⟨t, ht, rfl⟩ := hs
    rw [fnd_mem h.gT ht, fnd_mem h.gU ((h.mem t).1 ht)]
  · have h1 : plc T s = none := plc_no (fun t ht e => hs ⟨t, ht, e⟩)
    have h2 : plc U s = none := plc_no (fun t ht e => hs ⟨t, (h.mem t).2 ht, e⟩)
    unfold Go.Proofs.YtagkogpjckjobaaGreatDoor.fnd
    rw [h1, h2]
theorem flw_cong {T U : List Tp} (h : ∀ s, fnd T s = fnd U s) : ∀ (k : Nat) (s : ByteArray) (z : Bool), flw T k s z = flw U k s z
  | 0, _, _ => rfl
  | k + 1, s, z => by
    rw [flw, flw, h s]
    split
    · rfl
    · exact flw_cong h k _ _
theorem Alk.flo {T U : List Tp} (h : Alk T U) (s : ByteArray) : flo T s = flo U s := by
  unfold Go.Proofs.YtagkogpjckjobaaGreatDoor.flo
  rw [h.len]
  exact flw_cong h.fnd _ _ _
theorem kap_cong {T U : List Tp} (h : ∀ s, fnd T s = fnd U s) (h2 : ∀ s, flo T s = flo U s) : ∀ (cs : List Cz) (seen : List Nat), kap T seen cs = kap U seen cs
  | [], _ => rfl
  | c :: r, seen => by
    unfold kap
    simp only [h, h2, kap_cong h h2 r]
theorem aln_tr {T U : List Tp} (hf : ∀ s, (fnd T s).2 = (fnd U s).2) {i j : Nat} {t : Tp} (hj : ¬ (plc U t.n).getD 0 < j) (h : aln T i t = 0) : aln U j t = 0 := by
  have h1 := (aln_0 h).1
  rw [Bool.or_eq_false_iff] at h1
  unfold aln at h ⊢
  rw [if_neg (by rw [h1.1, h1.2]; decide)] at h
  rw [if_neg (by rw [h1.1, decide_eq_false hj]; decide)]
  have e : (fun r : Rf => !(fnd U r.n).2) = fun r : Rf => !(fnd T r.n).2 := by funext r; rw [hf]
  rw [e]
  exact h
theorem Gdl.place {l : List Tp} (g : Gdl l) {i : Nat} {t : Tp} (ht : l[i]? = some t) : ¬ (plc l t.n).getD 0 < i := by
  obtain ⟨j, hj, _, u, hu, hn⟩ := plc_first l i t ht
  have := g.one j i u t hu ht hn
  rw [hj]
  show ¬ j < i
  omega
theorem Alk.okl {T U : List Tp} (h : Alk T U) (o : Okl T) : Okl U := by
  have key : ∀ (j : Nat) (t : Tp), U[j]? = some t → ∃ i, T[i]? = some t := fun j t ht => by
    obtain ⟨i, hi, e⟩ := List.getElem_of_mem ((h.mem t).2 (List.mem_of_getElem? ht))
    exact ⟨i, by rw [List.getElem?_eq_getElem hi, e]⟩
  refine ⟨by rw [← h.len]; exact o.m, fun j t ht => ?_, fun j t ht => ?_, fun j t ht => ?_⟩
  · obtain ⟨i, hi⟩ := key j t ht
    exact aln_tr (fun s => by rw [h.fnd s]) (h.gU.place ht) (o.a i t hi)
  · obtain ⟨i, hi⟩ := key j t ht
    have := o.r i t hi
    unfold rng at this ⊢
    rw [← h.flo]
    exact this
  · obtain ⟨i, hi⟩ := key j t ht
    have := o.t i t hi
    unfold tgt at this ⊢
    have e : (fun r : Rf => r.z && (Go.Proofs.YtagkogpjckjobaaGreatDoor.flo U r.n).2) = fun r : Rf => r.z && (Go.Proofs.YtagkogpjckjobaaGreatDoor.flo T r.n).2 := by funext r; rw [h.flo]
    rw [e, ← kap_cong h.fnd h.flo]
    exact this
theorem Alk.fls {T U : List Tp} (h : Alk T U) {F G : List ByteArray} (f : Fls T F) (g : Fls U G) (x : ByteArray) : x ∈ F ↔ x ∈ G :=
  ⟨fun hx => f.least G g.own (fun t ht hr => g.cl t ((h.mem t).1 ht) hr) x hx, fun hx => g.least F f.own (fun t ht hr => f.cl t ((h.mem t).2 ht) hr) x hx⟩
theorem alk_rev {T : List Tp} (g : Gdl T) : Alk T T.reverse := by
  refine ⟨g, ⟨fun t ht => g.own t (List.mem_reverse.1 ht), fun i j t u hi hj e => ?_⟩, fun t => List.mem_reverse.symm, (List.length_reverse).symm⟩
  have hil := (List.getElem?_eq_some_iff.1 hi).1
  have hjl := (List.getElem?_eq_some_iff.1 hj).1
  rw [List.length_reverse] at hil hjl
  rw [List.getElem?_reverse hil] at hi
  rw [List.getElem?_reverse hjl] at hj
  have := g.one _ _ t u hi hj e
  omega
theorem alk_rot {T : List Tp} (g : Gdl T) (n : Nat) (hn : n ≤ T.length) : Alk T (T.drop n ++ T.take n) := by
  have hm : ∀ t, t ∈ T ↔ t ∈ T.drop n ++ T.take n := fun t => by
    conv => lhs; rw [← List.take_append_drop n T]
    rw [List.mem_append, List.mem_append, or_comm]
  have hl : T.length = (T.drop n ++ T.take n).length := by rw [List.length_append, List.length_drop, List.length_take]; omega
  have hp : ∀ (i : Nat) (t : Tp), (T.drop n ++ T.take n)[i]? = some t → (i < T.length - n ∧ T[n + i]? = some t) ∨ (T.length - n ≤ i ∧ i < T.length ∧ T[i - (T.length - n)]? = some t) := fun i t hi => by
    have hil := (List.getElem?_eq_some_iff.1 hi).1
    rw [← hl] at hil
    by_cases h : i < T.length - n
    · rw [List.getElem?_append_left (by rw [List.length_drop]; exact h), List.getElem?_drop] at hi
      exact .inl ⟨h, hi⟩
    · rw [List.getElem?_append_right (by rw [List.length_drop]; omega), List.length_drop, List.getElem?_take] at hi
      split at hi
      · exact .inr ⟨by omega, hil, hi⟩
      · cases hi
  refine ⟨g, ⟨fun t ht => g.own t ((hm t).2 ht), fun i j t u hi hj e => ?_⟩, hm, hl⟩
  rcases hp i t hi with ⟨a1, a2⟩ | ⟨a1, a2, a3⟩ <;> rcases hp j u hj with ⟨b1, b2⟩ | ⟨b1, b2, b3⟩
  · have := g.one _ _ t u a2 b2 e; omega
  · have := g.one _ _ t u a2 b3 e; omega
  · have := g.one _ _ t u a3 b2 e; omega
  · have := g.one _ _ t u a3 b3 e; omega
/-! ### More steps -/
theorem fwr_more {l : List Tp} : ∀ (k : Nat) (s : ByteArray) (z : Bool), (fwr l k s z).2.2 = true → fwr l (k + 1) s z = fwr l k s z
  | 0, _, _, h => by cases h
  | k + 1, s, z, h => by
    cases hp : plc l s with
    | none => rw [fwr_none hp, fwr_none hp]
    | some i =>
      obtain ⟨t, ht, hn⟩ := plc_lt hp
      by_cases hk : t.k = 1
      · rw [fwr_on hp ht hk] at h
        rw [fwr_on hp ht hk, fwr_on hp ht hk]
        exact fwr_more k _ _ h
      · rw [fwr_end hp ht hk, fwr_end hp ht hk]
theorem fwr_z {l : List Tp} : ∀ (k : Nat) (s : ByteArray) (z z' : Bool), (fwr l k s z).1 = (fwr l k s z').1 ∧ (fwr l k s z).2.2 = (fwr l k s z').2.2
  | 0, _, _, _ => ⟨rfl, rfl⟩
  | k + 1, s, z, z' => by
    cases hp : plc l s with
    | none => rw [fwr_none hp, fwr_none hp]; exact ⟨rfl, rfl⟩
    | some i =>
      obtain ⟨t, ht, hn⟩ := plc_lt hp
      by_cases hk : t.k = 1
      · rw [fwr_on hp ht hk, fwr_on hp ht hk]
        exact fwr_z k _ _ _
      · rw [fwr_end hp ht hk, fwr_end hp ht hk]
        exact ⟨rfl, rfl⟩
theorem Okl.ends {l : List Tp} (h : Okl l) (s : ByteArray) : (flr l s).2.2 = true := by
  cases hp : plc l s with
  | none => unfold flr; rw [fwr_none hp]
  | some i =>
    obtain ⟨t, ht, hn⟩ := plc_lt hp
    have h1 := h.r i t ht
    rw [rng_flr h.fst ht] at h1
    rw [← hn]
    cases hz : (flr l t.n).2.2 with
    | true => rfl
    | false => rw [hz] at h1; exact absurd h1 (by decide)
/-! ### One type more -/
theorem plc_more {T : List Tp} {M : Tp} {s : ByteArray} (h : M.n ≠ s) : plc (T ++ [M]) s = plc T s := by
  rw [plc_app]
  cases plc T s with
  | none => simp only; rw [if_neg h]
  | some i => rfl
theorem getD_tp {T : List Tp} {M : Tp} {i : Nat} (h : i < T.length) : (T ++ [M]).getD i ztp = T.getD i ztp := by
  rw [List.getD_eq_getElem?_getD, List.getD_eq_getElem?_getD, List.getElem?_append_left h]
theorem fnd_more {T : List Tp} {M : Tp} {s : ByteArray} (h : M.n ≠ s) : fnd (T ++ [M]) s = fnd T s := by
  unfold fnd
  rw [plc_more h]
  cases hp : plc T s with
  | none => rfl
  | some i =>
    obtain ⟨t, ht, _⟩ := plc_lt hp
    simp only
    rw [getD_tp (List.getElem?_eq_some_iff.1 ht).1]
/-- A known name is not the new one. -/
theorem known_ne {T : List Tp} {M : Tp} (g : Gdl (T ++ [M])) {s : ByteArray} (h : (fnd T s).2 = true) : M.n ≠ s := by
  rintro rfl
  cases hp : plc T M.n with
  | none =>
    rw [fnd_none_2 hp] at h
    refine g.own M (by simp) ?_
    have : memb bltn M.n = true := by rw [memb_bltn]; exact h
    have h2 := memb_iff.1 this
    have h3 : bltn.all (fun s => memb own9 s) = true := by decide
    exact memb_iff.1 (List.all_eq_true.1 h3 _ h2)
  | some i =>
    obtain ⟨t, ht, hn⟩ := plc_lt hp
    have hil := (List.getElem?_eq_some_iff.1 ht).1
    have := g.one i T.length t M (by rw [List.getElem?_append_left hil]; exact ht) (by simp) hn
    omega
theorem fwr_ext {T : List Tp} {M : Tp} (F : Fst T) (g : Gdl (T ++ [M])) : ∀ (k : Nat) (s : ByteArray) (z : Bool), (fnd T s).2 = true → fwr (T ++ [M]) k s z = fwr T k s z
  | 0, _, _, _ => rfl
  | k + 1, s, z, hs => by
    have hne := known_ne g hs
    cases hp : plc T s with
    | none => rw [fwr_none hp, fwr_none (by rw [plc_more hne]; exact hp)]
    | some i =>
      obtain ⟨t, ht, hn⟩ := plc_lt hp
      have ht2 : (T ++ [M])[i]? = some t := by rw [List.getElem?_append_left (List.getElem?_eq_some_iff.1 ht).1]; exact ht
      by_cases hk : t.k = 1
      · rw [fwr_on hp ht hk, fwr_on (by rw [plc_more hne]; exact hp) ht2 hk]
        exact fwr_ext F g k _ _ (F.name t (List.mem_of_getElem? ht) hk)
      · rw [fwr_end hp ht hk, fwr_end (by rw [plc_more hne]; exact hp) ht2 hk]
theorem flo_ext {T : List Tp} {M : Tp} (o : Okl T) (e : Okl (T ++ [M])) {s : ByteArray} (hs : (fnd T s).2 = true) : flo (T ++ [M]) s = flo T s := by
  rw [flo_flr e.fst, flo_flr o.fst]
  have h1 : flr (T ++ [M]) s = flr T s := by
    unfold flr
    rw [List.length_append, List.length_singleton, fwr_ext o.fst e.gdl _ _ _ hs]
    exact fwr_more _ _ _ (o.ends s)
  rw [h1]
theorem any_cong11 {α : Type} : ∀ (l : List α) (p q : α → Bool), (∀ x ∈ l, p x = q x) → l.any p = l.any q
  | [], _, _, _ => rfl
  | x :: r, p, q, h => by rw [List.any_cons, List.any_cons, h x (List.mem_cons_self ..), any_cong11 r p q (fun y hy => h y (List.mem_cons_of_mem _ hy))]
/-- What a type's rule asks. -/
theorem rulb_congr {L L' : List ByteArray} {t : Tp} (h : ∀ r ∈ rfs t, memb L r.n = memb L' r.n) : rulb L t = rulb L' t := by
  have hf : ∀ f ∈ t.fs, memb L f.r.n = memb L' f.r.n := fun f hf => h f.r (by
    unfold rfs
    rw [List.mem_append, List.mem_append]
    exact .inl (.inr (List.mem_map.2 ⟨f, hf, rfl⟩)))
  have hc : ∀ c ∈ t.cs, memb L c.n = memb L' c.n := fun c hc => h ⟨c.n, false⟩ (by
    unfold rfs
    rw [List.mem_append]
    exact .inr (List.mem_map.2 ⟨c, hc, rfl⟩))
  unfold rulb lck
  split
  · rename_i hk
    rw [h t.r (by unfold rfs; rw [if_pos (.inl hk)]; simp)]
  · split
    · rename_i hk
      rw [h t.r (by unfold rfs; rw [if_pos (.inr hk)]; simp)]
    · split
      · congr 1
        exact any_cong11 _ _ _ (fun f hf' => by rw [hf f hf'])
      · split
        · exact any_cong11 _ _ _ hc
        · rfl
theorem memb_cons_ne {L : List ByteArray} {a s : ByteArray} (h : a ≠ s) : memb (a :: L) s = memb L s := by
  unfold memb
  rw [List.any_cons, decide_eq_false h, Bool.false_or]
theorem fls_ext {T : List Tp} {M : Tp} {F G : List ByteArray} (o : Okl T) (e : Okl (T ++ [M])) (f : Fls T F) (g : Fls (T ++ [M]) G) {x : ByteArray} (hx : (fnd T x).2 = true) : x ∈ F ↔ x ∈ G := by
  constructor
  · exact f.least G g.own (fun t ht hr => g.cl t (List.mem_append_left _ ht) hr) x
  · intro hg
    have h := g.least (M.n :: F) (fun y hy => List.mem_cons_of_mem _ (f.own y hy)) (fun t ht hr => by
      rcases List.mem_append.1 ht with ht | ht
      · refine List.mem_cons_of_mem _ (f.cl t ht ?_)
        rw [← rulb_congr (L := M.n :: F) (fun r hr => memb_cons_ne (known_ne e.gdl (o.fst.ref t ht r hr)))]
        exact hr
      · rw [List.mem_singleton.1 ht]
        exact List.mem_cons_self ..) x hg
    rcases List.mem_cons.1 h with h | h
    · exact absurd h.symm (known_ne e.gdl hx)
    · exact h
/-! ### What types speak of -/
theorem base_known {l : List Tp} (o : Okl l) {s : ByteArray} (hs : (fnd l s).2 = true) : (fnd l (flo l s).1).2 = true ∧ (fnd l (flo l s).1).1.k ≠ 1 := by
  rw [flo_flr o.fst]
  exact ⟨(flr_fen o.fst hs (o.ends s)).known, (flr_fen o.fst hs (o.ends s)).kind⟩
theorem Okl.own {l : List Tp} (o : Okl l) {t : Tp} (ht : t ∈ l) : ∃ i, plc l t.n = some i ∧ l[i]? = some t := by
  obtain ⟨i, hi, e⟩ := List.getElem_of_mem ht
  obtain ⟨j, hj, _, u, hu, hn⟩ := plc_first l i t (by rw [List.getElem?_eq_getElem hi, e])
  exact ⟨j, hj, by rw [← gdl_eq o.gdl (List.mem_of_getElem? hu) ht hn]; exact hu⟩
theorem base_step {l : List Tp} (o : Okl l) {t : Tp} (ht : t ∈ l) (hk : t.k = 1) : (flo l t.r.n).1 = (flo l t.n).1 := by
  obtain ⟨i, hp, hi⟩ := o.own ht
  rw [flo_flr o.fst, flo_flr o.fst]
  show (flr l t.r.n).1 = (flr l t.n).1
  have he := o.ends t.n
  unfold flr at he ⊢
  rw [fwr_on hp hi hk] at he ⊢
  rw [← fwr_more _ _ _ he]
  exact (fwr_z _ _ _ _).1
theorem fnd_n {l : List Tp} {s : ByteArray} (h : (fnd l s).2 = true) : (fnd l s).1.n = s := by
  cases hp : plc l s with
  | none =>
    rw [fnd_none_2 hp] at h
    rw [fnd_none_1 hp h]
    rfl
  | some i =>
    obtain ⟨t, ht, hn⟩ := plc_lt hp
    rw [fnd_some hp ht]
    exact hn
theorem full_one {l : List Tp} {F : List ByteArray} (o : Okl l) (f : Fls l F) {t : Tp} (ht : t ∈ l) (hk : t.k = 1) : memb F t.n = (t.r.z || memb F t.r.n) := by
  have h := fls_iff o.gdl f ht
  unfold rulb lck at h
  rw [if_pos hk] at h
  rw [Bool.eq_iff_iff, memb_iff, ← h]
  cases t.r.z <;> cases memb F t.r.n <;> decide
theorem full_end {l : List Tp} {F : List ByteArray} (o : Okl l) (f : Fls l F) : ∀ (k : Nat) (s : ByteArray) (z : Bool), (fwr l k s z).2.2 = true → (fwr l k s z).1 ∈ F → s ∈ F
  | 0, _, _, h, _ => by cases h
  | k + 1, s, z, h, hm => by
    cases hp : plc l s with
    | none => rw [fwr_none hp] at hm; exact hm
    | some i =>
      obtain ⟨t, ht, hn⟩ := plc_lt hp
      by_cases hk : t.k = 1
      · rw [fwr_on hp ht hk] at h hm
        have h1 := full_end o f k _ _ h hm
        have h2 := full_one o f (List.mem_of_getElem? ht) hk
        rw [memb_iff.2 h1, Bool.or_true] at h2
        rw [← hn]
        exact memb_iff.1 h2
      · rw [fwr_end hp ht hk] at hm
        exact hm
theorem full_base {l : List Tp} {F : List ByteArray} (o : Okl l) (f : Fls l F) {s : ByteArray} (hs : (fnd l s).2 = true) (h : memb F (fnd l (flo l s).1).1.n = true) : memb F s = true := by
  rw [fnd_n (base_known o hs).1, flo_flr o.fst] at h
  exact memb_iff.2 (full_end o f _ _ _ (o.ends s) (memb_iff.1 h))
end
section
open Go.RowKit Go
/-! ### A table, asked or not -/
/-- A table at g of a list, made behind N and ahead of top. -/
structure Tst (w : World) (N top g : Nat) (l : List Tp) : Prop where
  e : ∃ (wt : World) (vt : Value) (B : Nat) (d : Int) (m : Value), wt.heap.size = top ∧ (∀ wy, Kp (fun q => q < N ∨ q = g) wt wy → Sbok wy vt B l) ∧ Kp (fun q => q < N ∨ q = g) wt w ∧ w.heap[g]? = some (.cells #[vt, .map (some B), .int .u32 d, .int .i32 0, .int .u32 0, m] 71 (0, 0)) ∧ ((d = 0 ∧ m = .map none) ∨ (d = 1 ∧ ∃ M n F, m = .map (some M) ∧ Fls l F ∧ Mst w M n F))
  g : N ≤ g ∧ g < top
theorem Tst.of {w : World} {N g : Nat} {l : List Tp} (h : Tbm w N g l 0 (.map none)) (hN : N ≤ g) : Tst w N w.heap.size g l := by
  obtain ⟨vt, B, h1, h2⟩ := h.e
  exact ⟨⟨w, vt, B, 0, .map none, rfl, h2, Kp.refl _ _, h1, .inl ⟨rfl, rfl⟩⟩, hN, blk_lt h1⟩
theorem mst_ne {w : World} {M n g : Nat} {F : List ByteArray} {c : Array Value} {T : TypeId} (h : Mst w M n F) (hc : w.heap[g]? = some (.cells c T (0, 0))) : M ≠ g := fun e => by
  obtain ⟨_, D, ⟨es, clock, hm, _⟩, _⟩ := h
  rw [e, hc] at hm
  cases hm
theorem Tst.top_le {w : World} {N top g : Nat} {l : List Tp} (h : Tst w N top g l) : top ≤ w.heap.size := by
  obtain ⟨wt, vt, B, d, m, h1, _, h3, _⟩ := h.e
  rw [← h1]
  exact h3.size
theorem Tst.next {w w' : World} {N top g : Nat} {l : List Tp} (h : Tst w N top g l) (hb : Below w.heap.size w w') : Tst w' N top g l := by
  obtain ⟨wt, vt, B, d, m, h1, h2, h3, h4, h5⟩ := h.e
  refine ⟨⟨wt, vt, B, d, m, h1, h2, h3.trans (Kp.of_below (S := fun _ => False) hb) (fun _ _ e => e.elim), (hb.block _ (blk_lt h4)).trans h4, ?_⟩, h.g⟩
  rcases h5 with h5 | ⟨h5, M, n, F, e1, e2, e3⟩
  · exact .inl h5
  · exact .inr ⟨h5, M, n, F, e1, e2, e3.next hb⟩
/-- Another table's block is written to. -/
theorem Tst.other {w w' : World} {N top g A : Nat} {l : List Tp} {c : Array Value} {T : TypeId} (h : Tst w N top g l) (hk : Kp (fun q => q = A) w w') (hA : A < N ∨ top ≤ A) (hc : w.heap[A]? = some (.cells c T (0, 0))) : Tst w' N top g l := by
  obtain ⟨wt, vt, B, d, m, h1, h2, h3, h4, h5⟩ := h.e
  have hg := h.g
  refine ⟨⟨wt, vt, B, d, m, h1, h2, h3.trans hk (fun q hq e => by rw [h1] at hq; omega), (hk.block _ (blk_lt h4) (fun e => by omega)).trans h4, ?_⟩, h.g⟩
  rcases h5 with h5 | ⟨h5, M, n, F, e1, e2, e3⟩
  · exact .inl h5
  · exact .inr ⟨h5, M, n, F, e1, e2, e3.kp hk (fun e => mst_ne e3 hc e)⟩
theorem Tst.cells {w : World} {N top g : Nat} {l : List Tp} (h : Tst w N top g l) : ∃ c, w.heap[g]? = some (.cells c 71 (0, 0)) := by
  obtain ⟨wt, vt, B, d, m, _, _, _, h4, _⟩ := h.e
  exact ⟨_, h4⟩
theorem Tst.tbl {w : World} {N top g : Nat} {l : List Tp} (h : Tst w N top g l) : ∃ d m, Tbl w g l d m := by
  obtain ⟨wt, vt, B, d, m, h1, h2, h3, h4, h5⟩ := h.e
  exact ⟨d, m, ⟨vt, B, h4, h2 w h3, fun wy hk => (h2 wy (h3.trans hk (fun _ _ e => .inr e))).t⟩⟩
theorem tst_filled {w0 w : World} {N top g : Nat} {l : List Tp} (h : Tst w N top g l) (hO : Otb w0) (hb : Below w0.heap.size w0 w) (h0 : w0.heap.size ≤ N) (h64 : l.length ≤ 64) (s : ByteArray) (hs : s.size ≤ 140737488351232) : Calls Tryz.prog 18 #[.pointer (some ⟨g, 0, none⟩), .string s] w fun e w' => ∃ F, e = .returned (.bool (memb F s)) ∧ Hid (Fls l F ∧ Tst w' N top g l ∧ Kp (fun q => q = g) w w') := by
  have hg := h.g
  obtain ⟨wt, vt, B, d, m, h1, h2, h3, h4, h5⟩ := h.e
  rcases h5 with ⟨rfl, rfl⟩ | ⟨rfl, M, n, F, rfl, e2, e3⟩
  · refine (tfilled_first w g vt B l (.map none) s hs h4 (fun wy hk => (h2 wy (h3.trans hk (fun _ _ e => .inr e))).t) (fun wy hk => otb_kp hO hb (by omega) hk) h64).mono ?_
    rintro e w' ⟨M, k, rfl, hP⟩
    obtain ⟨p1, ⟨n, p2⟩, p3, p4, _⟩ := hP.out
    exact ⟨_, rfl, fls_itr p1, ⟨⟨wt, vt, B, 1, .map (some M), h1, h2, h3.trans p4 (fun _ _ e => .inr e), p3, .inr ⟨rfl, M, n, _, rfl, fls_itr p1, p2⟩⟩, hg⟩, p4⟩
  · refine (tfilled_again w g vt B M n F s hs h4 e3).mono ?_
    rintro e w' ⟨rfl, hb'⟩
    exact ⟨F, rfl, e2, Tst.next ⟨⟨wt, vt, B, 1, .map (some M), h1, h2, h3, h4, .inr ⟨rfl, M, n, F, rfl, e2, e3⟩⟩, hg⟩ hb', Kp.mono (Kp.of_below (S := fun _ => False) hb') (fun _ _ e => e.elim)⟩
end
section
open Go.RowKit Go
/-! ### Names, sorted -/
def bl11 (s : ByteArray) : List UInt8 := s.data.toList
def nml (l : List Tp) : List (List UInt8) := owns.map (fun p => bl11 p.1) ++ l.map (fun t => bl11 t.n)
def srn (l : List Tp) : List (List UInt8) := (nml l).mergeSort (fun x y => decide (x ≤ y))
def nms (l : List Tp) : List ByteArray := (srn l).map (fun z => ⟨z.toArray⟩)
theorem bl_back (s : ByteArray) : (⟨(bl11 s).toArray⟩ : ByteArray) = s := by
  unfold bl11
  rw [Array.toArray_toList]
theorem bl_inj {s t : ByteArray} (h : bl11 s = bl11 t) : s = t := by rw [← bl_back s, ← bl_back t, h]
theorem srn_perm (l : List Tp) : (srn l).Perm (nml l) := List.mergeSort_perm _ _
theorem srn_len (l : List Tp) : (srn l).length = l.length + 9 := by
  rw [(srn_perm l).length_eq]
  unfold nml
  rw [List.length_append, List.length_map, List.length_map]
  show 9 + _ = _
  omega
theorem nms_len (l : List Tp) : (nms l).length = l.length + 9 := by
  unfold nms
  rw [List.length_map, srn_len]
theorem owns_mem (s : ByteArray) : s ∈ owns.map (·.1) ↔ s ∈ own9 := by
  have h1 : (owns.map (·.1)).all (fun s => memb own9 s) = true := by decide
  have h2 : own9.all (fun s => memb (owns.map (·.1)) s) = true := by decide
  exact ⟨fun h => memb_iff.1 (List.all_eq_true.1 h1 s h), fun h => memb_iff.1 (List.all_eq_true.1 h2 s h)⟩
theorem nml_mem (l : List Tp) (s : ByteArray) : bl11 s ∈ nml l ↔ s ∈ own9 ∨ ∃ t ∈ l, t.n = s := by
  unfold nml
  rw [List.mem_append, ← owns_mem]
  constructor
  · rintro (h | h)
    · obtain ⟨p, hp, e⟩ := List.mem_map.1 h
      exact .inl (List.mem_map.2 ⟨p, hp, bl_inj e⟩)
    · obtain ⟨t, ht, e⟩ := List.mem_map.1 h
      exact .inr ⟨t, ht, bl_inj e⟩
  · rintro (h | ⟨t, ht, rfl⟩)
    · obtain ⟨p, hp, e⟩ := List.mem_map.1 h
      exact .inl (List.mem_map.2 ⟨p, hp, by rw [e]⟩)
    · exact .inr (List.mem_map.2 ⟨t, ht, rfl⟩)
theorem nms_mem (l : List Tp) (s : ByteArray) : s ∈ nms l ↔ s ∈ own9 ∨ ∃ t ∈ l, t.n = s := by
  rw [← nml_mem, ← (srn_perm l).mem_iff]
  unfold nms
  constructor
  · intro h
    obtain ⟨z, hz, rfl⟩ := List.mem_map.1 h
    unfold bl11
    simpa using hz
  · intro h
    exact List.mem_map.2 ⟨_, h, bl_back s⟩
theorem nms_known {l : List Tp} (g : Gdl l) {s : ByteArray} (h : s ∈ nms l) : (fnd l s).2 = true := by
  rcases (nms_mem l s).1 h with h | ⟨t, ht, rfl⟩
  · cases hp : plc l s with
    | none => rw [fnd_none_2 hp]; exact own9_ownK h
    | some i =>
      obtain ⟨t, ht, _⟩ := plc_lt hp
      rw [fnd_some hp ht]
  · rw [fnd_mem g ht]
theorem srn_le (l : List Tp) : (srn l).Pairwise (fun x y => x ≤ y) := by
  have := List.pairwise_mergeSort (le := fun (x y : List UInt8) => decide (x ≤ y)) (fun a b c h1 h2 => by simp only [decide_eq_true_eq] at *; exact List.le_trans h1 h2) (fun a b => by simp only [Bool.or_eq_true, decide_eq_true_eq]; exact List.le_total a b) (nml l)
  exact this.imp (fun h => of_decide_eq_true h)
theorem lt_of11 {x y : List UInt8} (h : x ≤ y) (h2 : x ≠ y) : x < y := by
  rcases Decidable.em (x < y) with h3 | h3
  · exact h3
  · exact absurd (List.le_antisymm h (List.not_lt.1 h3)) h2
theorem gdl_nodup {l : List Tp} (g : Gdl l) : (l.map (fun t => bl11 t.n)).Nodup := by
  unfold List.Nodup
  rw [List.pairwise_iff_getElem]
  intro i j hi hj hij e
  simp only [List.getElem_map] at e
  rw [List.length_map] at hi hj
  have := g.one i j _ _ (List.getElem?_eq_getElem hi) (List.getElem?_eq_getElem hj) (bl_inj e)
  omega
theorem nml_nodup {l : List Tp} (g : Gdl l) : (nml l).Nodup := by
  unfold nml
  rw [List.nodup_append]
  refine ⟨by decide, gdl_nodup g, fun a ha b hb e => ?_⟩
  subst e
  obtain ⟨p, hp, e1⟩ := List.mem_map.1 ha
  obtain ⟨t, ht, e2⟩ := List.mem_map.1 hb
  have e3 := bl_inj (e1.trans e2.symm)
  exact g.own t ht ((owns_mem t.n).1 (List.mem_map.2 ⟨p, hp, e3⟩))
theorem srn_lt {l : List Tp} (g : Gdl l) : (srn l).Pairwise (fun x y => x < y) := by
  have h1 := srn_le l
  have h2 : (srn l).Nodup := (srn_perm l).nodup_iff.2 (nml_nodup g)
  exact (h1.and h2).imp (fun h => lt_of11 h.1 h.2)
theorem srt_eq11 : ∀ {a b : List (List UInt8)}, a.Pairwise (fun x y => x < y) → b.Pairwise (fun x y => x < y) → (∀ x, x ∈ a ↔ x ∈ b) → a = b
  | [], [], _, _, _ => rfl
  | [], y :: b, _, _, h => absurd ((h y).2 (List.mem_cons_self ..)) (by simp)
  | x :: a, [], _, _, h => absurd ((h x).1 (List.mem_cons_self ..)) (by simp)
  | x :: a, y :: b, ha, hb, h => by
    obtain ⟨ha1, ha2⟩ := List.pairwise_cons.1 ha
    obtain ⟨hb1, hb2⟩ := List.pairwise_cons.1 hb
    have e : x = y := by
      rcases List.mem_cons.1 ((h x).1 (List.mem_cons_self ..)) with e | e
      · exact e
      · rcases List.mem_cons.1 ((h y).2 (List.mem_cons_self ..)) with e2 | e2
        · exact e2.symm
        · exact absurd (hb1 x e) (List.lt_asymm (ha1 y e2))
    subst e
    congr 1
    refine srt_eq11 ha2 hb2 (fun z => ⟨fun hz => ?_, fun hz => ?_⟩)
    · rcases List.mem_cons.1 ((h z).1 (List.mem_cons_of_mem _ hz)) with e | e
      · subst e; exact absurd (ha1 z hz) (List.lt_irrefl z)
      · exact e
    · rcases List.mem_cons.1 ((h z).2 (List.mem_cons_of_mem _ hz)) with e | e
      · subst e; exact absurd (hb1 z hz) (List.lt_irrefl z)
      · exact e
theorem nms_eq {T U : List Tp} (h : Alk T U) : nms T = nms U := by
  unfold nms
  congr 1
  refine srt_eq11 (srn_lt h.gT) (srn_lt h.gU) (fun z => ?_)
  rw [(srn_perm T).mem_iff, (srn_perm U).mem_iff]
  unfold nml
  rw [List.mem_append, List.mem_append]
  refine or_congr Iff.rfl ⟨fun hz => ?_, fun hz => ?_⟩
  · obtain ⟨t, ht, e⟩ := List.mem_map.1 hz
    exact List.mem_map.2 ⟨t, (h.mem t).1 ht, e⟩
  · obtain ⟨t, ht, e⟩ := List.mem_map.1 hz
    exact List.mem_map.2 ⟨t, (h.mem t).2 ht, e⟩
/-- Each name is behind the one ahead of it. -/
theorem nms_rise {l : List Tp} (g : Gdl l) {i : Nat} {s t : ByteArray} (hs : (nms l)[i]? = some s) (ht : (nms l)[i + 1]? = some t) : bl11 s < bl11 t := by
  unfold nms at hs ht
  rw [List.getElem?_map] at hs ht
  obtain ⟨x, hx, rfl⟩ := Option.map_eq_some_iff.1 hs
  obtain ⟨y, hy, rfl⟩ := Option.map_eq_some_iff.1 ht
  obtain ⟨hi, ex⟩ := List.getElem?_eq_some_iff.1 hx
  obtain ⟨hj, ey⟩ := List.getElem?_eq_some_iff.1 hy
  have := List.pairwise_iff_getElem.1 (srn_lt g) i (i + 1) hi hj (by omega)
  rw [ex, ey] at this
  unfold bl11
  simpa using this
end
section
open Go.RowKit Go
set_option maxRecDepth 1000000 in
set_option maxHeartbeats 1000000 in
theorem tfind2_any (w : World) (hO : Otb w) (g : Nat) (l : List Tp) (d : Int) (m : Value) (hTb : Tbl w g l d m) (hS : Shrt l) (s : ByteArray) (hs : s.size ≤ 140737488351232) : Calls Tryz.prog 17 #[.pointer (some ⟨g, 0, none⟩), .string s] w fun e w' => ∃ c, e = .returned (.tuple #[.agg c, .bool (fnd l s).2]) ∧ Hid (Tpi w' (fnd l s).1 c ∧ Below w.heap.size w w' ∧ ∀ (S : Nat → Prop) wy, (∀ q, S q → q < w.heap.size) → Kp S w' wy → Tpi wy (fnd l s).1 c) := by
  have HO := hide hO
  have HS := hide hs
  have HSF := hide (shrt_fnd hS s)
  obtain ⟨vt, B, hg, hB, _⟩ := hTb.e
  have HB := hide hB
  obtain ⟨⟨⟨a, cap, rfl, _, _⟩, _⟩, _⟩ := hB
  have hb0 := below_alloc4 w (.cells #[.string ⟨#[]⟩, .int .i64 0, .int .i64 0, .int .i64 0, .string ⟨#[]⟩, .bool false, .slice none 0 0, .slice none 0 0, .slice none 0 0] 29)
  have HB0 := hide hb0
  have hg1 := (hb0.block _ (blk_lt hg)).trans hg
  have HCB : Hid (∀ j u, (#[.slice a l.length cap, .map (some B)] : Array Value)[j]? = some u → (w.alloc (.cells #[.string ⟨#[]⟩, .int .i64 0, .int .i64 0, .int .i64 0, .string ⟨#[]⟩, .bool false, .slice none 0 0, .slice none 0 0, .slice none 0 0] 29)).cell? ⟨g, 0 + j, none⟩ = some u) := sub_cell (o := 0) hg1 (fun j u hj => by
    rcases j with _ | _ | j
    · exact hj
    · exact hj
    · simp at hj)
  have HR0 := hide (heap_alloc_new w (.cells #[.string ⟨#[]⟩, .int .i64 0, .int .i64 0, .int .i64 0, .string ⟨#[]⟩, .bool false, .slice none 0 0, .slice none 0 0, .slice none 0 0] 29))
  have HIB := hide infoBk
  have HAB : Hid (∀ w, (isAgg 55).run Tryz.prog w = .ok true w) := aggBk
  have HIT := hide infoTp
  have HAT : Hid (∀ w, (isAgg 29).run Tryz.prog w = .ok true w) := aggTp
  clear hO hs hTb hS hb0 hg hg1
  go_enter Tryz.func17, Tryz.ntmps17
  go_wp2_with (refine wpList_aggAt rfl rfl HIB.out HAB.out g 0 #[.slice a l.length cap, .map (some B)] rfl rfl HCB.out ?_)
  generalize w.alloc (.cells #[.string ⟨#[]⟩, .int .i64 0, .int .i64 0, .int .i64 0, .string ⟨#[]⟩, .bool false, .slice none 0 0, .slice none 0 0, .slice none 0 0] 29) = w1 at *
  refine (find_any w1 (HO.out.next (keep_below HB0.out)) _ B l (HB.out.next HB0.out) s HS.out).mono ?_
  rintro e w2 ⟨c, rfl, hc, hb⟩
  obtain ⟨t, ht⟩ : ∃ t, t = (fnd l s).1 := ⟨_, rfl⟩
  have HTE := hide ht
  rw [← ht] at hc HSF
  clear ht
  have HC := hide hc
  obtain ⟨⟨vf, vc, vw, rfl, ⟨⟨af, cf, rfl, -, -⟩, -⟩, ⟨⟨ac, cc, rfl, -, -⟩, -⟩, ⟨⟨aw, cw, rfl, -, -⟩, -, -⟩⟩, -⟩ := hc
  unfold tpc at HC
  unfold tpc
  have hb3 := below_alloc4 w2 (.cells #[.string t.n, .int .i64 t.k, .int .i64 t.lo, .int .i64 t.hi, .string t.r.n, .bool t.r.z, .slice af t.fs.length cf, .slice ac t.cs.length cc, .slice aw t.ws.length cw] 29)
  have hr2 := (hb.block _ (blk_lt HR0.out)).trans HR0.out
  have HR3 := hide ((hb3.block _ (blk_lt hr2)).trans hr2)
  have HB3 : Hid (Below w.heap.size w (w2.alloc (.cells #[.string t.n, .int .i64 t.k, .int .i64 t.lo, .int .i64 t.hi, .string t.r.n, .bool t.r.z, .slice af t.fs.length cf, .slice ac t.cs.length cc, .slice aw t.ws.length cw] 29))) := (HB0.out.trans (hb.mono HB0.out.size)).trans (hb3.mono (Nat.le_trans HB0.out.size hb.size))
  have HC3 := hide (HC.out.move (keep_below hb3))
  have HTC : Hid (∀ j u, (#[.string t.n, .int .i64 t.k, .int .i64 t.lo, .int .i64 t.hi, .string t.r.n, .bool t.r.z, .slice af t.fs.length cf, .slice ac t.cs.length cc, .slice aw t.ws.length cw] : Array Value)[j]? = some u → (w2.alloc (.cells #[.string t.n, .int .i64 t.k, .int .i64 t.lo, .int .i64 t.hi, .string t.r.n, .bool t.r.z, .slice af t.fs.length cf, .slice ac t.cs.length cc, .slice aw t.ws.length cw] 29)).cell? ⟨w2.heap.size, 0 + j, none⟩ = some u) := fun j u hu => by rw [Nat.zero_add]; exact blk_cell (heap_alloc_new w2 _) hu
  clear hb hb3 hr2 HC HCB HR0
  go_wp2_with (refine wpList_aggAt rfl rfl HIT.out HAT.out w2.heap.size 0 #[.string t.n, .int .i64 t.k, .int .i64 t.lo, .int .i64 t.hi, .string t.r.n, .bool t.r.z, .slice af t.fs.length cf, .slice ac t.cs.length cc, .slice aw t.ws.length cw] rfl rfl HTC.out ?_)
  generalize w2.alloc (.cells #[.string t.n, .int .i64 t.k, .int .i64 t.lo, .int .i64 t.hi, .string t.r.n, .bool t.r.z, .slice af t.fs.length cf, .slice ac t.cs.length cc, .slice aw t.ws.length cw] 29) = w3 at *
  refine (fresh_any w3 t _ HC3.out HSF.out.1 HSF.out.2.1 HSF.out.2.2).mono ?_
  rintro e w4 ⟨c', rfl, hP⟩
  have hb4 := hP.out.2.1
  have HR4 := hide ((hb4.block _ (blk_lt HR3.out)).trans HR3.out)
  have HB4 : Hid (Below w.heap.size w w4) := HB3.out.trans (hb4.mono HB3.out.size)
  have HK4 : Hid (∀ wy, Kp (fun q => q ≤ w.heap.size) w4 wy → Tpi wy t c') := fun wy hk => hP.out.2.2 _ wy (fun q e => Nat.lt_of_le_of_lt e (blk_lt HR3.out)) hk
  have HZ9 := hide hP.out.1.size9
  have HA1 := hide hP.out.1.all1
  have HI2 : Hid ((Tryz.prog.info? 29).map (·.size) = some c'.size) := by show _ = _; rw [HZ9.out]; exact infoTp
  have HZ2 : Hid ((#[.string ⟨#[]⟩, .int .i64 0, .int .i64 0, .int .i64 0, .string ⟨#[]⟩, .bool false, .slice none 0 0, .slice none 0 0, .slice none 0 0] : Array Value).size = c'.size) := by show _ = _; rw [HZ9.out]; rfl
  clear hP hb4 HR3 HB3 HC3 HTC
  go_wp2_with (refine wpList_storeRow rfl rfl w.heap.size #[.string ⟨#[]⟩, .int .i64 0, .int .i64 0, .int .i64 0, .string ⟨#[]⟩, .bool false, .slice none 0 0, .slice none 0 0, .slice none 0 0] c' 29 rfl rfl HR4.out HI2.out HZ2.out HA1.out ?_)
  have hkr := row_kp w4 w.heap.size c'
  exact bodyPost_ret (end_ct rfl (row_same HR4.out) rfl rfl Tryz.underlying29 HI2.out) rfl ⟨_, rfl, HTE.out ▸ HK4.out _ (hkr.mono (fun q _ e => by omega)), HB4.out.trans (hkr.below HB4.out.size (fun q e => by omega)), fun S wy hS hk => HTE.out ▸ HK4.out _ ((hkr.mono (fun q _ e => by omega)).trans hk (fun q _ e => by have := hS q e; omega))⟩

theorem tst_find2 {w : World} {N top g : Nat} {l : List Tp} (h : Tst w N top g l) (hO : Otb w) (hS : Shrt l) (s : ByteArray) (hs : s.size ≤ 140737488351232) : Calls Tryz.prog 17 #[.pointer (some ⟨g, 0, none⟩), .string s] w fun e w' => ∃ c, e = .returned (.tuple #[.agg c, .bool (fnd l s).2]) ∧ Hid (Tpi w' (fnd l s).1 c ∧ Below w.heap.size w w' ∧ ∀ (S : Nat → Prop) wy, (∀ q, S q → q < w.heap.size) → Kp S w' wy → Tpi wy (fnd l s).1 c) := by
  obtain ⟨d, m, ht⟩ := h.tbl
  exact tfind2_any w hO g l d m ht hS s hs
set_option maxRecDepth 1000000 in
set_option maxHeartbeats 1000000 in
theorem tst_base {w : World} {N top g : Nat} {l : List Tp} (h : Tst w N top g l) (hO : Otb w) (hS : Shrt l) (hl : ∀ t ∈ l, t.r.n.size ≤ 140737488351232) (s : ByteArray) (hs : s.size ≤ 140737488351232) : Calls Tryz.prog 22 #[.pointer (some ⟨g, 0, none⟩), .string s] w fun e w' => ∃ c, e = .returned (.tuple #[.agg c, .bool (fnd l (flo l s).1).2]) ∧ Hid (Tpi w' (fnd l (flo l s).1).1 c ∧ Below w.heap.size w w' ∧ ∀ (S : Nat → Prop) wy, (∀ q, S q → q < w.heap.size) → Kp S w' wy → Tpi wy (fnd l (flo l s).1).1 c) := by
  have HO := hide hO
  have HS := hide hs
  have HH := hide h
  have HSH := hide hS
  have HL := hide hl
  have HFZ : Hid ((flo l s).1.size ≤ 140737488351232) := flw_sz hl _ _ _ hs
  obtain ⟨d, m, hTb⟩ := h.tbl
  obtain ⟨vt, B, hg, hB, _⟩ := hTb.e
  have HBk := hide hB
  obtain ⟨⟨⟨a, cap, rfl, _, _⟩, _⟩, _⟩ := hB
  have hb0 := below_alloc4 w (.cells #[.string ⟨#[]⟩, .int .i64 0, .int .i64 0, .int .i64 0, .string ⟨#[]⟩, .bool false, .slice none 0 0, .slice none 0 0, .slice none 0 0] 29)
  have HB0 := hide hb0
  have hg1 := (hb0.block _ (blk_lt hg)).trans hg
  have HCB : Hid (∀ j u, (#[.slice a l.length cap, .map (some B)] : Array Value)[j]? = some u → (w.alloc (.cells #[.string ⟨#[]⟩, .int .i64 0, .int .i64 0, .int .i64 0, .string ⟨#[]⟩, .bool false, .slice none 0 0, .slice none 0 0, .slice none 0 0] 29)).cell? ⟨g, 0 + j, none⟩ = some u) := sub_cell (o := 0) hg1 (fun j u hj => by
    rcases j with _ | _ | j
    · exact hj
    · exact hj
    · simp at hj)
  have HR0 := hide (heap_alloc_new w (.cells #[.string ⟨#[]⟩, .int .i64 0, .int .i64 0, .int .i64 0, .string ⟨#[]⟩, .bool false, .slice none 0 0, .slice none 0 0, .slice none 0 0] 29))
  have HIB := hide infoBk
  have HAB : Hid (∀ w, (isAgg 55).run Tryz.prog w = .ok true w) := aggBk
  clear hO hs hTb hS hb0 hg hg1 h hl
  go_enter Tryz.func22, Tryz.ntmps22
  go_wp2_with (refine wpList_aggAt rfl rfl HIB.out HAB.out g 0 #[.slice a l.length cap, .map (some B)] rfl rfl HCB.out ?_)
  generalize w.alloc (.cells #[.string ⟨#[]⟩, .int .i64 0, .int .i64 0, .int .i64 0, .string ⟨#[]⟩, .bool false, .slice none 0 0, .slice none 0 0, .slice none 0 0] 29) = w1 at *
  refine (follow_any w1 (HO.out.next (keep_below HB0.out)) _ B l (HBk.out.next HB0.out) HL.out s HS.out).mono ?_
  rintro e w2 ⟨rfl, hb2⟩
  have HB2 : Hid (Below w.heap.size w w2) := HB0.out.trans (hb2.mono HB0.out.size)
  have HR2 := hide ((hb2.block _ (blk_lt HR0.out)).trans HR0.out)
  clear hb2 HR0 HCB HBk
  generalize hEZ : flo l s = EZ at *
  obtain ⟨E, Z⟩ := EZ
  have HEZ := hide hEZ
  clear hEZ
  go_wp2_with (refine wpList_ex rfl (exec_name rfl rfl) ?_)
  refine (tst_find2 (HH.out.next HB2.out) (HO.out.next (keep_below HB2.out)) HSH.out E HFZ.out).mono ?_
  rintro e w4 ⟨c', rfl, hP⟩
  have hb4 := hP.out.2.1
  have HR4 := hide ((hb4.block _ (blk_lt HR2.out)).trans HR2.out)
  have HB4 : Hid (Below w.heap.size w w4) := HB2.out.trans (hb4.mono HB2.out.size)
  have HK4 : Hid (∀ wy, Kp (fun q => q ≤ w.heap.size) w4 wy → Tpi wy (fnd l E).1 c') := fun wy hk => hP.out.2.2 _ wy (fun q e => Nat.lt_of_le_of_lt e (blk_lt HR2.out)) hk
  have HZ9 := hide hP.out.1.size9
  have HA1 := hide hP.out.1.all1
  have HI2 : Hid ((Tryz.prog.info? 29).map (·.size) = some c'.size) := by show _ = _; rw [HZ9.out]; exact infoTp
  have HZ2 : Hid ((#[.string ⟨#[]⟩, .int .i64 0, .int .i64 0, .int .i64 0, .string ⟨#[]⟩, .bool false, .slice none 0 0, .slice none 0 0, .slice none 0 0] : Array Value).size = c'.size) := by show _ = _; rw [HZ9.out]; rfl
  clear hP hb4 HR2 HB2
  generalize hbb : (fnd l E).2 = bb at *
  have HBB := hide hbb
  clear hbb
  go_wp2_with (refine wpList_storeRow rfl rfl w.heap.size #[.string ⟨#[]⟩, .int .i64 0, .int .i64 0, .int .i64 0, .string ⟨#[]⟩, .bool false, .slice none 0 0, .slice none 0 0, .slice none 0 0] c' 29 rfl rfl HR4.out HI2.out HZ2.out HA1.out ?_)
  have hkr := row_kp w4 w.heap.size c'
  have hE : (flo l s).1 = E := by rw [HEZ.out]
  exact bodyPost_ret (end_ct rfl (row_same HR4.out) rfl rfl Tryz.underlying29 HI2.out) rfl ⟨c', by rw [hE, HBB.out]; rfl, by rw [hE]; exact HK4.out _ (hkr.mono (fun q _ e => by omega)), HB4.out.trans (hkr.below HB4.out.size (fun q e => by omega)), fun S wy hS hk => by rw [hE]; exact HK4.out _ ((hkr.mono (fun q _ e => by omega)).trans hk (fun q _ e => by have := hS q e; omega))⟩
end
section
open Go.RowKit Go

end
section
open Go.RowKit Go

end
section
open Go.RowKit Go
/-- Texts as cells. -/
def sv (ks : List ByteArray) : List Value := ks.map fun s => .string s
theorem sv_len (ks : List ByteArray) : (sv ks).length = ks.length := by simp [sv]
theorem sv_app (a b : List ByteArray) : sv (a ++ b) = sv a ++ sv b := by simp [sv]
theorem sv_get {ks : List ByteArray} {j : Nat} {s : ByteArray} (h : ks[j]? = some s) : (sv ks)[j]? = some (.string s) := by simp [sv, h]
theorem sv_one (ks : List ByteArray) : ∀ u ∈ sv ks, u.oneCell' = true := by
  intro u hu
  simp only [sv, List.mem_map] at hu
  obtain ⟨_, _, rfl⟩ := hu
  rfl
theorem info9_ex : ∃ i, Tryz.prog.info? 9 = some i ∧ i.zero = some (.string ⟨#[]⟩) ∧ i.size = 1 ∧ i.bytes = 16 := by
  have h : (Tryz.prog.info? 9).map (fun i => (i.zero, i.size, i.bytes)) = some (some (.string ⟨#[]⟩), 1, 16) := by kernel_rfl
  cases hi : Tryz.prog.info? 9 with
  | none => rw [hi] at h; cases h
  | some i =>
    rw [hi] at h
    injection h with h
    injection h with h1 h2
    injection h2 with h2 h3
    exact ⟨i, rfl, h1, h2, h3⟩
set_option maxRecDepth 1000000 in
/-- 'append(l, x...)' of texts. -/
theorem append_ssl {ops : Array Oper} {rest : List Oper} {o : Oper} {a : Act} {Q : Exit → Act → World → Prop} {w : World} (hgd : o.guard = none) (s x : Operand)
    (ho : o.op = .call { callee := .builtin .append, args := #[s, x], argTypes := #[27, 27] }) (B : Nat) (v : Value) (n : Nat) (ds : List ByteArray) (hs : a.eval s = v) (hown : w.ownsRow B 9 1 v n (sv ds))
    (u : Value) (es : List ByteArray) (hx : a.eval x = u) (hu : SSl w u es) (hlen : n + es.length < 1099511627776) (hbase : B ≤ w.heap.size)
    (h : ∀ v' w', w'.ownsRow B 9 1 v' (n + es.length) (sv (ds ++ es)) → w.grownBy w' v.ownBlock → wpList Tryz.prog ops Q rest (a.put o.dst v') w') : wpList Tryz.prog ops Q (o :: rest) a w := by
  obtain ⟨i, hi, hz0, hz1, hz2⟩ := info9_ex
  obtain ⟨⟨ad, cap, rfl, hn, hc⟩, hmax, _⟩ := hu
  cases ad with
  | none =>
    have hc0 := hn.2 rfl
    have he : es = [] := List.length_eq_zero_iff.1 (by omega)
    subst hc0
    subst he
    refine wpList_append_own_none hgd s x 27 ho B 9 i 1 Tryz.underlying27 hi v n (sv ds) hs hown hx (h v w ?_ ⟨rfl, rfl, rfl, Nat.le_refl _, fun _ _ _ => rfl⟩)
    simpa using hown
  | some ad =>
    refine wpList_append_own_at w hgd s x 27 ho B 9 i (.string ⟨#[]⟩) 1 16 Tryz.underlying27 hi hz0 hz1 hz2 rfl (by decide) v n (sv ds) hs hown ad es.length cap (sv es) hx (by rw [sv_len, Nat.mul_one]) (fun j u hu => ?_) (sv_one es) (by unfold maxLen; omega) (by omega) hbase fun v' w' h1 h2 _ _ => h v' w' (by rw [sv_app]; exact h1) h2
    have hjl : j < es.length := by
      rcases Nat.lt_or_ge j es.length with h | h
      · exact h
      · rw [List.getElem?_eq_none (by rw [sv_len]; exact h)] at hu
        cases hu
    rcases hc with hc | ⟨b, off, e, hc⟩
    · rw [hc] at hjl
      simp at hjl
    · injection e with e
      subst e
      rw [sv_get (List.getElem?_eq_getElem hjl)] at hu
      injection hu with hu
      rw [addr_add, hc j _ (List.getElem?_eq_getElem hjl), hu]
/-- One text, fresh. -/
theorem one_ssl (w : World) (s : ByteArray) (hs : s.size ≤ 140737488351232) : SSl (w.alloc (.cells #[.string s] 9)) (.slice (some ⟨w.heap.size, 0, none⟩) 1 1) [s] := by
  refine ⟨⟨_, 1, rfl, ⟨by simp, fun h => by cases h⟩, .inr ⟨w.heap.size, 0, rfl, fun j t hj => ?_⟩⟩, by simp, by simpa using hs⟩
  match j, hj with
  | 0, hj =>
    simp at hj
    subst hj
    exact blk_cell (heap_alloc_new w _) rfl
  | j + 1, hj => simp at hj
end
section
open Go.RowKit Go

end
section
open Go.RowKit

end
section
open Go.RowKit Go

end
section
open Go.RowKit Go
/-! ### Rows of structs, lent -/
theorem gfl_cells2 {w : World} {k b off : Nat} (hk : 0 < k) {L : List (Array Value)} (hl : ∀ c ∈ L, c.size = k) (h : ∀ (i : Nat) (c : Array Value), L[i]? = some c → ∀ j u, c[j]? = some u → w.cell? ⟨b, off + i * k + j, none⟩ = some u) : ∀ (j : Nat) (u : Value), (gfl L)[j]? = some u → w.cell? ⟨b, off + j, none⟩ = some u := fun j u hu => by
  have hj := (List.getElem?_eq_some_iff.1 hu).1
  rw [gfl_len hl] at hj
  have hi : j / k < L.length := (Nat.div_lt_iff_lt_mul hk).2 hj
  have hL : L[j / k]? = some L[j / k] := List.getElem?_eq_getElem hi
  have hs := hl _ (List.getElem_mem hi)
  have hr : j % k < (L[j / k]).size := by rw [hs]; exact Nat.mod_lt _ hk
  have hc : (L[j / k])[j % k]? = some (L[j / k])[j % k] := Array.getElem?_eq_getElem hr
  have hg := gfl_get hl _ _ _ _ hL hc
  have e : j / k * k + j % k = j := by rw [Nat.mul_comm]; exact Nat.div_add_mod j k
  rw [e, hu] at hg
  have h2 := h _ _ hL _ _ hc
  rw [Nat.add_assoc, e] at h2
  rw [Option.some.inj hg]
  exact h2
/-- A row of structs lent: nine marks stand behind it. -/
structure Lgs (T k : Nat) (mk : Array Value) (w : World) (base : Nat) (v : Value) (L : List (Array Value)) : Prop where
  own : ∃ g cap, v = .slice (some ⟨g, 0, none⟩) L.length cap ∧ w.ownsRow base T k (.slice (some ⟨g, 0, none⟩) (L.length + 9) cap) (L.length + 9) (gfl (L ++ List.replicate 9 mk))
  siz : ∀ c ∈ L, c.size = k
  mks : mk.size = k
theorem Lgs.all {T k : Nat} {mk : Array Value} {w : World} {base : Nat} {v : Value} {L : List (Array Value)} (h : Lgs T k mk w base v L) : ∀ c ∈ L ++ List.replicate 9 mk, c.size = k := fun c hc => by
  rcases List.mem_append.1 hc with hc | hc
  · exact h.siz c hc
  · rw [List.eq_of_mem_replicate hc]
    exact h.mks
end
end Go.Proofs.YtagkogpjckjobaaGreatDoor
