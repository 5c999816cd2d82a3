import Derived.Test.YtglbllkmhedlfaaDoorJi
import Derived.Test.YtglbllkmhedlfaaDoorJj
import Derived.Test.YtglbllkmhedlfaaDoorJb
import Derived.DeepKeys
import Derived.Lib.SlBytesConst
import Derived.Test.YtglbllkmhedlfaaDoorJd
import Derived.Test.YtglbllkmhedlfaaDoorJa
import Derived.StillTailTactics
import Derived.Test.YtglbllkmhedlfaaDoorJc
import Derived.Deep.QuietTactic
import Derived.BigQuiet
import Derived.Deep.RegionWith
import Derived.Laws.ResultCell
import Derived.Deep.LoopGhost
import Derived.Deep.DeepCutAuto
import Derived.Test.YtglbllkmhedlfaaDoorJe
import Derived.Laws.Bits64
namespace Go.Proofs.YtglbllkmhedlfaaDoor
section
open Go.RowKit Go
/-- 'append(l, x...)' of links; x may be nil. -/
theorem append_lks {ops : Array Oper} {rest : List Oper} {o : Oper} {a : Act} {Q : Exit → Act → World → Prop} {w : World} (hgd : o.guard = none) (s x : Operand)
    (ho : o.op = .call { callee := .builtin .append, args := #[s, x], argTypes := #[27, 27] }) (B : Nat) (v : Value) (n : Nat) (rs : List Lk) (hs : a.eval s = v) (hown : w.ownsRow B 36 4 v n (fcl rs))
    (B2 : Nat) (u : Value) (xs : List Lk) (hx : a.eval x = u) (hu : w.ownsRow B2 36 4 u xs.length (fcl xs)) (hlen : n + xs.length < 1099511627) (hbase : B ≤ w.heap.size)
    (h : ∀ v' w', w'.ownsRow B 36 4 v' (n + xs.length) (fcl (rs ++ xs)) → w.grownBy w' v.ownBlock → (v'.ownBlock = v.ownBlock ∨ v'.ownBlock = some w.heap.size) → wpList Tryd.prog ops Q rest (a.put o.dst v') w') : wpList Tryd.prog ops Q (o :: rest) a w := by
  obtain ⟨i, hi, hz0, hz1, hz2⟩ := infoLk_ex
  rcases id hu.2 with ⟨hv, he⟩ | ⟨g, cap, cur, hv, _⟩
  · subst hv
    have e : xs = [] := List.length_eq_zero_iff.1 he
    subst e
    refine wpList_append_own_none hgd s x 27 ho B 36 i 4 Tryd.underlying27 hi v n (fcl rs) hs hown hx (h v w ?_ ⟨rfl, rfl, rfl, Nat.le_refl _, fun _ _ _ => rfl⟩ (.inl rfl))
    simpa using hown
  · subst hv
    refine wpList_append_own_at w hgd s x 27 ho B 36 i _ 4 40 Tryd.underlying27 hi hz0 hz1 hz2 rfl (by decide) v n (fcl rs) hs hown ⟨g, 0, none⟩ xs.length cap (fcl xs) hx (fcl_len xs) (fun j u hj => hu.cells (g := g) rfl j u hj) (fcl_one xs) (by unfold maxLen; omega) (by omega) hbase fun v' w' h1 h2 _ h4 => h v' w' (by rw [fcl_app]; exact h1) h2 h4
theorem step_append_lks {ops : Array Oper} {o : Oper} {a : Act} {K : Act → World → Prop} {Q : Exit → Act → World → Prop} {w : World} (hw : Region.wanted o (yielded ops a.tmps) = true) (s x : Operand)
    (ho : o.op = .call { callee := .builtin .append, args := #[s, x], argTypes := #[27, 27] }) (B : Nat) (v : Value) (n : Nat) (rs : List Lk) (hs : a.eval s = v) (hown : w.ownsRow B 36 4 v n (fcl rs))
    (B2 : Nat) (u : Value) (xs : List Lk) (hx : a.eval x = u) (hu : w.ownsRow B2 36 4 u xs.length (fcl xs)) (hlen : n + xs.length < 1099511627) (hbase : B ≤ w.heap.size)
    (h : ∀ v' w', w'.ownsRow B 36 4 v' (n + xs.length) (fcl (rs ++ xs)) → w.grownBy w' v.ownBlock → (v'.ownBlock = v.ownBlock ∨ v'.ownBlock = some w.heap.size) → K (a.put o.dst v') w') : if Region.wanted o (yielded ops a.tmps) = true then Oper.wp Tryd.prog o a w K Q else K (a.put o.dst undef) w := by
  rw [if_pos hw]
  obtain ⟨i, hi, hz0, hz1, hz2⟩ := infoLk_ex
  rcases id hu.2 with ⟨hv, he⟩ | ⟨g, cap, cur, hv, _⟩
  · subst hv
    have e : xs = [] := List.length_eq_zero_iff.1 he
    subst e
    have hrun := run_append_owned_none (P := Tryd.prog) (w := w) B 27 o.type 36 i 4 Tryd.underlying27 hi v n (fcl rs) hown
    unfold Oper.wp execOp
    simp only [ho, resolve, invoke, builtin, Sem.run_bind, Sem.run_pure, Result.andThen_ok, List.map_toArray, List.map_cons, List.map_nil, hs, hx, hrun]
    exact h v w (by simpa using hown) ⟨rfl, rfl, rfl, Nat.le_refl _, fun _ _ _ => rfl⟩ (.inl rfl)
  · subst hv
    refine wp_append_at s x 27 ho B 36 i _ 4 40 Tryd.underlying27 hi hz0 hz1 hz2 rfl (by decide) v n (fcl rs) hs hown ⟨g, 0, none⟩ xs.length cap (fcl xs) hx (fcl_len xs) (fun j u hj => hu.cells (g := g) rfl j u hj) (fcl_one xs) (by unfold maxLen; omega) (by omega) hbase fun v' w' h1 h2 h4 => h v' w' (by rw [fcl_app]; exact h1) h2 h4
/-- What the reference's Links has in hand. -/
structure Rlk (w wx : World) (cs : Array Value) (vx vl : Value) (ps : List Nat) (rs : List Lk) : Prop where
  b : Below w.heap.size w wx
  p : wx.heap[w.heap.size]? = some (.cells cs 38 (0, 0))
  o : wx.ownsRow (w.heap.size + 1) 36 4 vx rs.length (fcl rs)
  l : wx.ownsRow (w.heap.size + 1) 3 1 vl ps.length (ivs ps)
theorem Rlk.next {w wx wy : World} {cs : Array Value} {vx vl : Value} {ps : List Nat} {rs : List Lk} (h : Rlk w wx cs vx vl ps rs) (hb : Below wx.heap.size wx wy) : Rlk w wy cs vx vl ps rs := by
  have hk : Kp (fun _ => False) wx wy := Kp.of_below hb
  exact ⟨h.b.trans (hb.mono h.b.size), (hb.block _ (blk_lt h.p)).trans h.p, hk.owns h.o (fun _ _ e => e), hk.owns h.l (fun _ _ e => e)⟩
theorem Rlk.app {w wx wy : World} {cs : Array Value} {vx vy vl : Value} {ps : List Nat} {rs rs2 : List Lk} (h : Rlk w wx cs vx vl ps rs) (ho : wy.ownsRow (w.heap.size + 1) 36 4 vy rs2.length (fcl rs2)) (hg : wx.grownBy wy vx.ownBlock) : Rlk w wy cs vy vl ps rs2 := by
  have hk : Kp (fun q => vx.ownBlock = some q) wx wy := (Kp.refl _ _).grown hg (fun k _ e => e)
  exact ⟨h.b.trans (hk.below h.b.size (fun q e => by have := h.o.lt q e; omega)), (hk.block _ (blk_lt h.p) (fun e => by have := h.o.lt _ e; omega)).trans h.p, ho, hk.owns h.l (fun q h1 h2 => own_dis h.l h.o (by decide) q h1 h2)⟩
/-- What a region of Links holds throughout. -/
def S17 (w : World) (cs : Array Value) (vl : Value) (ps : List Nat) (wy : World) : Prop := Below w.heap.size w wy ∧ wy.heap[w.heap.size]? = some (.cells cs 38 (0, 0)) ∧ wy.ownsRow (w.heap.size + 1) 3 1 vl ps.length (ivs ps)
def RlkC (t : Tv) : Prop := ∀ (w : World) (cs : Array Value) (d : Nat), Tin w t cs → chkf t d = 0 → tmuch t ≤ 100000 → Calls Tryd.prog 13 #[.agg cs] w fun e w' => ∃ v, e = .returned v ∧ w'.ownsRow w.heap.size 36 4 v (lnkf t).length (fcl (lnkf t)) ∧ Below w.heap.size w w'
set_option maxRecDepth 1000000 in
set_option maxHeartbeats 4000000 in
theorem rlinks_step (t : Tv) (ih : ∀ u ∈ t.is, RlkC u) : RlkC t := by
  intro w cs d ht hc hm
  have HIH := hide ih
  have HTI := hide ht
  have HTK := hide (chk_trk hc)
  have hc0 := chkf_0 hc
  have HCI := hide hc0.2
  have htd := (onef_0 hc0.1).2.1
  have hme := tmuch_eq t
  have HLE : Hid ((lnkf t).length ≤ 100000) := Nat.le_trans (lnkf_le t) hm
  have HML : Hid (tmuchL t.is ≤ 100000 ∧ t.is.length ≤ 100000 ∧ t.ks.length ≤ 100000) := by
    have := tmuchL_len t.is
    exact ⟨by omega, by omega, by omega⟩
  clear ih hc hm hme hc0
  obtain ⟨vy0, vk0, vi0, rfl, hy, hkk, hvv, hb⟩ := ht.parts
  have HSK := hide hkk
  obtain ⟨⟨ak, ck, rfl, _, hkf⟩, hkm, hkz⟩ := hkk
  obtain ⟨⟨ai, ci, rfl, _, hfi⟩, hvm⟩ := hvv
  have HFI := hide hfi
  have HC0 : Hid ((vcs t vy0 (.slice ak t.ks.length ck) (.slice ai t.is.length ci))[0]? = some (.int .i64 t.k)) := rfl
  have HC11 : Hid ((vcs t vy0 (.slice ak t.ks.length ck) (.slice ai t.is.length ci))[11]? = some (.slice ak t.ks.length ck)) := rfl
  have HC12 : Hid ((vcs t vy0 (.slice ak t.ks.length ck) (.slice ai t.is.length ci))[12]? = some (.slice ai t.is.length ci)) := rfl
  have HLK : Hid (∀ (wx : World) (g : Nat), wx.heap[g]? = some (.cells (vcs t vy0 (.slice ak t.ks.length ck) (.slice ai t.is.length ci)) 38 (0, 0)) → ∀ j x, (lcs t.l)[j]? = some x → wx.cell? ⟨g, 7 + j, none⟩ = some x) := fun wx g h j x hx => lk_in h hx
  generalize vcs t vy0 (.slice ak t.ks.length ck) (.slice ai t.is.length ci) = cs at *
  clear ht hy hfi hkf hkz hb
  have HR0 : Hid (Rlk w (w.alloc (.cells cs 38)) cs (.slice none 0 0) (.slice none 0 0) [] []) := ⟨below_alloc4 w _, heap_alloc_new w _, World.ownsRow_nil _ _ _ _, World.ownsRow_nil _ _ _ _⟩
  have q0 := blk_cell HR0.out.p HC0.out
  by_cases h7 : t.k = 7
  · as_aux_lemma =>
    have g7 : (t.k == 7) = true := beq_iff_eq.2 h7
    have HE : Hid (lnkf t = [t.l]) := lnkf_7 h7
    have HLA := hide (HLK.out _ _ HR0.out.p)
    have HL1 := hide (heap_alloc_new (w.alloc (.cells cs 38)) (.cells (fcl [t.l]).toArray 36))
    clear h7
    go_enter Tryd.func13, Tryd.ntmps13
    go_wp2_with (first
      | (refine wpList_lkAt rfl rfl w.heap.size 7 t.l rfl HLA.out ?_)
      | (refine wpList_lks1 rfl rfl t.l rfl ?_)
      | (at_builtin; refine append_lkq rfl _ _ rfl w.heap.size _ 0 [] rfl (World.ownsRow_nil _ _ _ _) (w.alloc (.cells cs 38)).heap.size t.l rfl HL1.out ?b1 ?b2 ?_))
    case b1 => omega
    case b2 => simp; omega
    intro v2 w2 ho2 hg2 hv2
    have HO2 : Hid (w2.ownsRow w.heap.size 36 4 v2 (lnkf t).length (fcl (lnkf t))) := by
      show World.ownsRow _ _ _ _ _ _ _
      rw [HE.out]
      exact ho2
    have HB2 : Hid (Below w.heap.size w w2) := (HR0.out.next (below_alloc4 _ (.cells (fcl [t.l]).toArray 36))).b.grown hg2 (by simp; omega) (fun g hg => by cases hg)
    clear ho2 hg2 hv2
    go_wp2_with fail
    go_ret
    exact ⟨_, rfl, HO2.out, HB2.out⟩
  have g7 : (t.k == 7) = false := beq_eq_false_iff_ne.2 h7
  by_cases h9 : t.k = 9
  · have g9 : (t.k == 9) = true := beq_iff_eq.2 h9
    have q11 := blk_cell HR0.out.p HC11.out
    obtain ⟨hks, hnd, _⟩ := HTK.out.m h9
    have HPU : Hid (∀ ps, Srp t.ks t.ks.length ps → lnkf t = ps.flatMap (lnx t)) := fun ps hp => by
      rw [lnkf_n h7 (.inr h9)]
      have e : pls t = ps := srp_one hnd (by omega) (pls_srp (by omega)) (by rw [show min t.ks.length t.is.length = t.ks.length by omega]; exact hp)
      rw [e]
    have HKS := hide hks
    clear h7 hnd hks h9
    go_enter Tryd.func13, Tryd.ntmps13
    go_wp2_with fail
    clear q0 q11
    generalize w.alloc (.cells cs 38) = w2 at *
    refine (orderR_any t.ks w2 _ (HSK.out.move (keep_below HR0.out.b)) HML.out.2.2).mono ?_
    rintro e w3 ⟨vl, ps, rfl, hsp, hl3, hb3⟩
    have HE := hide (HPU.out ps hsp)
    have HR3 : Hid (Rlk w w3 cs (.slice none 0 0) vl ps []) := by
      have h := HR0.out.next hb3
      have h2 := blk_lt HR0.out.p
      exact ⟨h.b, h.p, h.o, own_mono hl3 (by omega)⟩
    have HPS : Hid (ps.length = t.is.length ∧ ∀ (j p : Nat), ps[j]? = some p → p < t.is.length) := ⟨by rw [hsp.len]; exact HKS.out, fun j p hp => by have h1 := hsp.lt p (List.mem_of_getElem? hp); have h2 := HKS.out; omega⟩
    obtain ⟨al, cl, hvl⟩ := own_slice hl3
    subst hvl
    clear hsp hl3 hb3 HR0 HPU
    have hpb : ps.length ≤ 100000 := by have h1 := HPS.out.1; have h2 := HML.out.2.1; omega
    go_wp2_with fail
    go_loopw [3, 5] (fun vv ii wx => ∃ i : Nat, i ≤ ps.length ∧ ii = .int .i64 (i : Nat) ∧ Hid (Rlk w wx cs vv (.slice al ps.length cl) ps ((ps.take i).flatMap (lnx t)))) (fun _ ii _ => ps.length - (intOf ii).toNat)
    case atStart => exact ⟨0, by omega, rfl, by simpa using HR3⟩
    case round =>
      clear HR3
      obtain ⟨i, hi, rfl, HR⟩ := hrel
      by_cases hlt : i < ps.length
      · as_aux_lemma =>
        have g1 : (i : Int) < (ps.length : Int) := by omega
        obtain ⟨q, hq⟩ : ∃ q, ps[i]? = some q := ⟨ps[i], List.getElem?_eq_getElem hlt⟩
        have hql : q < t.is.length := HPS.out.2 i q hq
        obtain ⟨gl, hgl⟩ : ∃ gl, al = some ⟨gl, 0, none⟩ := by
          rcases HR.out.l.2 with ⟨e, h0⟩ | ⟨g', c, cur, e, _⟩
          · omega
          · injection e with e _ _
            exact ⟨g', e⟩
        subst hgl
        have HPI : Hid ((ivs ps)[i]? = some (.int .i64 (q : Nat))) := by show _ = _; simp [ivs, hq]
        have gq2 : (q : Int) < (t.is.length : Int) := by omega
        obtain ⟨u, hu⟩ : ∃ u, t.is[q]? = some u := ⟨t.is[q], List.getElem?_eq_getElem hql⟩
        obtain ⟨b, off, rfl, hcells⟩ := HFI.out.resolve_left (fun h => by rw [h] at hql; simp at hql)
        obtain ⟨cu, tu, hcu⟩ := hcells q u hu
        have HZU := hide tu.size13
        have HCU := hide hcu
        have hmem := List.mem_of_getElem? hu
        have HCA : Hid (∀ wx, Below w.heap.size w wx → Calls Tryd.prog 13 #[.agg cu] wx fun e w' => ∃ v, e = .returned v ∧ w'.ownsRow wx.heap.size 36 4 v (lnkf u).length (fcl (lnkf u)) ∧ Below wx.heap.size wx w') := fun wx hb => HIH.out u hmem wx cu (d + 1) (tu.move (keep_below hb)) (HCI.out u hmem) (Nat.le_trans (tmuchL_mem hmem) HML.out.1)
        have HFL : Hid ((ps.take (i + 1)).flatMap (lnx t) = (ps.take i).flatMap (lnx t) ++ lnkf u) := by show _ = _; rw [flat_take hq, lnx_at hu]
        have HLN : Hid (((ps.take i).flatMap (lnx t)).length + (lnkf u).length ≤ 100000) := by
          have h1 := flat_le (t := t) (ps := ps) (i + 1)
          have h2 := HLE.out
          rw [HE.out] at h2
          rw [HFL.out, List.length_append] at h1
          show _ ≤ _
          omega
        clear hcells tu hcu hu hq hmem
        obtain ⟨bx, dx, hux⟩ := own_slice HR.out.o
        subst hux
        go_wp2_with fail
        refine heldStart (S := S17 w cs (.slice (some ⟨gl, 0, none⟩) ps.length cl) ps) (by kernel_rfl) ?_
        have HRD : Hid (Rlk w wr.drew cs (.slice bx ((ps.take i).flatMap (lnx t)).length dx) (.slice (some ⟨gl, 0, none⟩) ps.length cl) ps ((ps.take i).flatMap (lnx t))) := HR.out.next (by refine Below.drew ?_; exact Below.refl _ _)
        clear HR
        generalize wr.drew = w4 at *
        have hS : S17 w cs (.slice (some ⟨gl, 0, none⟩) ps.length cl) ps w4 := ⟨HRD.out.b, HRD.out.p, HRD.out.l⟩
        generalize (ps.take i).flatMap (lnx t) = rs at *
        refine heldTake 0 _ rfl (by kernel_rfl) (by kernel_rfl) (by kernel_rfl) (fun _ _ _ h => h) rfl hS (fun wy hy => by first | (go_simp; done) | (go_simp; rfl) | rfl) ?_
        (try simp only [Act.put]); (try simp only [List.setIfInBounds_toArray, List.set_cons_zero, List.set_cons_succ])
        refine heldTake 1 _ rfl (by kernel_rfl) (by kernel_rfl) (by kernel_rfl) (fun _ _ _ h => h) rfl hS (fun wy hy => by first | (go_simp; done) | (go_simp; rfl) | rfl) ?_
        (try simp only [Act.put]); (try simp only [List.setIfInBounds_toArray, List.set_cons_zero, List.set_cons_succ])
        refine heldTake 3 _ rfl (by kernel_rfl) (by kernel_rfl) (by kernel_rfl) (fun _ _ _ h => h) rfl hS (fun wy hy => by first | (go_simp; done) | (go_simp; rfl) | rfl) ?_
        (try simp only [Act.put]); (try simp only [List.setIfInBounds_toArray, List.set_cons_zero, List.set_cons_succ])
        refine heldTake 4 _ rfl (by kernel_rfl) (by kernel_rfl) (by kernel_rfl) (fun _ _ _ h => h) rfl hS (fun wy hy => by first | (go_simp; done) | (go_simp; rfl) | rfl) ?_
        (try simp only [Act.put]); (try simp only [List.setIfInBounds_toArray, List.set_cons_zero, List.set_cons_succ])
        refine heldTake 2 _ rfl (by kernel_rfl) (by kernel_rfl) (by kernel_rfl) (fun _ _ _ h => h) rfl hS (fun wy hy => by have h0 := blk_cell (j := 12) hy.2.1 HC12.out; first | (go_simp; done) | (go_simp; rfl) | rfl) ?_
        (try simp only [Act.put]); (try simp only [List.setIfInBounds_toArray, List.set_cons_zero, List.set_cons_succ])
        refine heldTake 5 _ rfl (by kernel_rfl) (by kernel_rfl) (by kernel_rfl) (fun _ _ _ h => h) rfl hS (fun wy hy => by first | (go_simp; done) | (go_simp; rfl) | rfl) ?_
        (try simp only [Act.put]); (try simp only [List.setIfInBounds_toArray, List.set_cons_zero, List.set_cons_succ])
        refine heldTake 6 _ rfl (by kernel_rfl) (by kernel_rfl) (by kernel_rfl) (fun _ _ _ h => h) rfl hS (fun wy hy => by have h0 := (own_cell hy.2.2 HPI.out).1; first | (go_simp; done) | (go_simp; rfl) | rfl) ?_
        (try simp only [Act.put]); (try simp only [List.setIfInBounds_toArray, List.set_cons_zero, List.set_cons_succ])
        refine heldTake 7 _ rfl (by kernel_rfl) (by kernel_rfl) (by kernel_rfl) (fun _ _ _ h => h) rfl hS (fun wy hy => by first | (go_simp; done) | (go_simp; rfl) | rfl) ?_
        (try simp only [Act.put]); (try simp only [List.setIfInBounds_toArray, List.set_cons_zero, List.set_cons_succ])
        refine heldTake 8 _ rfl (by kernel_rfl) (by kernel_rfl) (by kernel_rfl) (fun _ _ _ h => h) rfl hS (fun wy hy => exec_valAt (g := b) (off := off + q * 13) (cs := cu) rfl rfl HZU.out (fun j x hx => keep_below hy.1 _ _ (HCU.out j x hx))) ?_
        (try simp only [Act.put]); (try simp only [List.setIfInBounds_toArray, List.set_cons_zero, List.set_cons_succ])
        refine heldStep 9 rfl (by kernel_rfl) (fun K hK => ?_)
        go_simp
        refine (HCA.out w4 HRD.out.b).mono ?_
        rintro e w5 ⟨v5, rfl, ho5, hb5⟩
        have HR5 := hide (HRD.out.next hb5)
        have HO5 := hide ho5
        clear ho5 hb5 HRD HCA
        refine (Hid.out hK) _ _ ⟨HR5.out.b, HR5.out.p, HR5.out.l⟩ (fun hS2 => ?_)
        clear hK K hS
        have hS := hS2
        clear hS2
        (try simp only [Act.put]); (try simp only [List.setIfInBounds_toArray, List.set_cons_zero, List.set_cons_succ])
        refine heldStep 10 rfl (by kernel_rfl) (fun K hK => ?_)
        refine step_append_lks rfl _ _ rfl (w.heap.size + 1) (.slice bx rs.length dx) rs.length rs rfl HR5.out.o w4.heap.size v5 (lnkf u) rfl HO5.out (by have := HLN.out; omega) (by have := blk_lt HR5.out.p; omega) (fun v6 w6 ho6 hg6 hq6 => ?_)
        have HR6 : Hid (Rlk w w6 cs v6 (.slice (some ⟨gl, 0, none⟩) ps.length cl) ps ((ps.take (i + 1)).flatMap (lnx t))) := HR5.out.app (by rw [HFL.out, List.length_append]; exact ho6) hg6
        clear ho6 hg6 hq6 HR5 HO5
        refine (Hid.out hK) _ _ ⟨HR6.out.b, HR6.out.p, HR6.out.l⟩ (fun hS2 => ?_)
        clear hK K hS
        have hS := hS2
        clear hS2
        (try simp only [Act.put]); (try simp only [List.setIfInBounds_toArray, List.set_cons_zero, List.set_cons_succ])
        refine heldTake 11 _ rfl (by kernel_rfl) (by kernel_rfl) (by kernel_rfl) (fun _ _ _ h => h) rfl hS (fun wy hy => by first | (go_simp; done) | (go_simp; rfl) | rfl) ?_
        (try simp only [Act.put]); (try simp only [List.setIfInBounds_toArray, List.set_cons_zero, List.set_cons_succ])
        refine heldDone (by kernel_rfl) ?_
        clear hS
        go_wp2_with fail
        go_roundw
        case rel => exact ⟨i + 1, by omega, by go_num, HR6⟩
        case measure => simp [intOf]; omega
      · as_aux_lemma =>
        have g1 : ¬ (i : Int) < (ps.length : Int) := by omega
        have hie : i = ps.length := by omega
        have HRE : Hid (w.heap.size ≤ w.heap.size + 1 ∧ wr.ownsRow (w.heap.size + 1) 36 4 u3 (lnkf t).length (fcl (lnkf t))) := by
          refine ⟨by omega, ?_⟩
          have h := HR.out.o
          rw [hie, List.take_length, ← HE.out] at h
          exact h
        have HBE := hide HR.out.b
        clear HR
        go_wp2_with fail
        go_ret
        exact ⟨_, rfl, own_mono HRE.out.2 HRE.out.1, HBE.out⟩
  · have g9 : (t.k == 9) = false := beq_eq_false_iff_ne.2 h9
    have HE : Hid (lnkf t = (List.range t.is.length).flatMap (lnx t)) := by
      show _ = _
      by_cases h8 : t.k = 8
      · rw [lnkf_n h7 (.inl h8)]
        unfold pls
        rw [if_pos h8]
      · rw [lnkf_0 h7 (by omega), tidy_is htd h8 h9]
        rfl
    clear h7
    go_enter Tryd.func13, Tryd.ntmps13
    go_wp2_with fail
    clear q0
    generalize w.alloc (.cells cs 38) = w2 at *
    go_loopw [3, 6] (fun vv ii wx => ∃ i : Nat, i ≤ t.is.length ∧ ii = .int .i64 (i : Nat) ∧ Hid (Rlk w wx cs vv (.slice none 0 0) [] (((List.range t.is.length).take i).flatMap (lnx t)))) (fun _ ii _ => t.is.length - (intOf ii).toNat)
    case atStart => exact ⟨0, by omega, rfl, by simpa using HR0⟩
    case round =>
      clear HR0
      obtain ⟨i, hi, rfl, HR⟩ := hrel
      have q12 := blk_cell (j := 12) HR.out.p HC12.out
      by_cases hlt : i < t.is.length
      · as_aux_lemma =>
        have g1 : (i : Int) < (t.is.length : Int) := by omega
        obtain ⟨u, hu⟩ : ∃ u, t.is[i]? = some u := ⟨t.is[i], List.getElem?_eq_getElem hlt⟩
        obtain ⟨b, off, rfl, hcells⟩ := HFI.out.resolve_left (fun h => by rw [h] at hlt; simp at hlt)
        obtain ⟨cu, tu, hcu⟩ := hcells i u hu
        have HZU := hide tu.size13
        have HCC : Hid (∀ j x, cu[j]? = some x → wr.cell? ⟨b, off + i * 13 + j, none⟩ = some x) := fun j x hx => keep_below HR.out.b _ _ (hcu j x hx)
        have hmem := List.mem_of_getElem? hu
        have HCA : Hid (∀ wx, Below w.heap.size w wx → Calls Tryd.prog 13 #[.agg cu] wx fun e w' => ∃ v, e = .returned v ∧ w'.ownsRow wx.heap.size 36 4 v (lnkf u).length (fcl (lnkf u)) ∧ Below wx.heap.size wx w') := fun wx hb => HIH.out u hmem wx cu (d + 1) (tu.move (keep_below hb)) (HCI.out u hmem) (Nat.le_trans (tmuchL_mem hmem) HML.out.1)
        have HFL : Hid (((List.range t.is.length).take (i + 1)).flatMap (lnx t) = ((List.range t.is.length).take i).flatMap (lnx t) ++ lnkf u) := by show _ = _; rw [flat_take (List.getElem?_range hlt), lnx_at hu]
        have HLN : Hid ((((List.range t.is.length).take i).flatMap (lnx t)).length + (lnkf u).length ≤ 100000) := by
          have h1 := flat_le (t := t) (ps := List.range t.is.length) (i + 1)
          have h2 := HLE.out
          rw [HE.out] at h2
          rw [HFL.out, List.length_append] at h1
          show _ ≤ _
          omega
        clear hcells tu hcu hu hmem
        obtain ⟨bx, dx, hux⟩ := own_slice HR.out.o
        subst hux
        generalize ((List.range t.is.length).take i).flatMap (lnx t) = rs at *
        go_wp2_with (refine wpList_valAt rfl rfl b (off + i * 13) cu rfl HZU.out HCC.out ?_)
        refine (HCA.out wr HR.out.b).mono ?_
        rintro e w5 ⟨v5, rfl, ho5, hb5⟩
        have HR5 := hide (HR.out.next hb5)
        have HO5 := hide ho5
        clear ho5 hb5 HR HCA HCC q12
        go_wp2_with (at_builtin; refine append_lks rfl _ _ rfl (w.heap.size + 1) (.slice bx rs.length dx) rs.length rs rfl HR5.out.o wr.heap.size v5 (lnkf u) rfl HO5.out ?b1 ?b2 ?_)
        case b1 => have := HLN.out; omega
        case b2 => have := blk_lt HR5.out.p; omega
        intro v6 w6 ho6 hg6 hq6
        have HR6 : Hid (Rlk w w6 cs v6 (.slice none 0 0) [] (((List.range t.is.length).take (i + 1)).flatMap (lnx t))) := HR5.out.app (by rw [HFL.out, List.length_append]; exact ho6) hg6
        clear ho6 hg6 hq6 HR5 HO5
        go_wp2_with fail
        go_roundw
        case rel => exact ⟨i + 1, by omega, by go_num, HR6⟩
        case measure => simp [intOf]; omega
      · as_aux_lemma =>
        have g1 : ¬ (i : Int) < (t.is.length : Int) := by omega
        have hie : i = t.is.length := by omega
        have HRE : Hid (w.heap.size ≤ w.heap.size + 1 ∧ wr.ownsRow (w.heap.size + 1) 36 4 u3 (lnkf t).length (fcl (lnkf t))) := by
          refine ⟨by omega, ?_⟩
          have h := HR.out.o
          rw [hie, List.take_of_length_le (by simp), ← HE.out] at h
          exact h
        have HBE := hide HR.out.b
        clear HR
        go_wp2_with fail
        go_ret
        exact ⟨_, rfl, own_mono HRE.out.2 HRE.out.1, HBE.out⟩
theorem rlinks_any (t : Tv) : RlkC t := by
  have h : ∀ N, ∀ t : Tv, SizeOf.sizeOf t = N → RlkC t := by
    intro N
    induction N using Nat.strongRecOn with
    | _ N ih => exact fun t hN => rlinks_step t (fun u hu => ih _ (by rw [← hN]; exact Tv.is_lt hu) u rfl)
  exact h _ t rfl
end
section
open Go.RowKit Go

end
section
open Go.RowKit Go

end
section
open Go.RowKit Go
theorem own_blk (a : Option Addr) (n m c d : Nat) : (Value.slice a n c).ownBlock = (Value.slice a m d).ownBlock := by cases a <;> rfl
theorem own_zero {w : World} {B : Nat} {e : TypeId} {a : Option Addr} {n c : Nat} {xs : List Value} (h : w.ownsRow B e 1 (.slice a n c) n xs) : w.ownsRow B e 1 (.slice a 0 c) 0 [] := by
  refine ⟨rfl, ?_⟩
  rcases h.2 with ⟨hv, _⟩ | ⟨g, cap, cur, hv, hb, hg, h1, h2, h3, h4⟩
  · injection hv with e1 e2 e3
    subst e1
    subst e3
    exact .inl ⟨rfl, rfl⟩
  · injection hv with e1 e2 e3
    subst e1
    subst e3
    exact .inr ⟨g, c, cur, rfl, hb, hg, Nat.zero_le _, h2, h3, by simp⟩
/-- append of bytes, and where they lie. -/
theorem append_bsl_at {ops : Array Oper} {rest : List Oper} {o : Oper} {a : Act} {Q : Exit → Act → World → Prop} {w : World} (hgd : o.guard = none) (s x : Operand)
    (ho : o.op = .call { callee := .builtin .append, args := #[s, x], argTypes := #[25, 25] }) (B : Nat) (v : Value) (n : Nat) (ds : List Nat) (hs : a.eval s = v) (hown : w.ownsRow B 5 1 v n (bv ds))
    (u : Value) (xs : List Nat) (hx : a.eval x = u) (hsl : BSl w u xs) (hlen : n + xs.length ≤ 140737488355328) (hbase : B ≤ w.heap.size)
    (h : ∀ v' w', w'.ownsRow B 5 1 v' (n + xs.length) (bv (ds ++ xs)) → w.grownBy w' v.ownBlock → (v'.ownBlock = v.ownBlock ∨ v'.ownBlock = some w.heap.size) → wpList Tryd.prog ops Q rest (a.put o.dst v') w') : wpList Tryd.prog ops Q (o :: rest) a w := by
  obtain ⟨i5, hi, hz0, hz1, hz2⟩ := info5_ex
  obtain ⟨⟨ad, cap, rfl, hn, hc⟩, hmax, hb⟩ := id hsl
  cases ad with
  | none =>
    rcases hc with rfl | ⟨_, _, e, _⟩
    · have := hn.2 rfl
      subst this
      refine wpList_append_own_none hgd s x 25 ho B 5 i5 1 Tryd.underlying25 hi v n (bv ds) hs hown hx (h v w ?_ ⟨rfl, rfl, rfl, Nat.le_refl _, fun _ _ _ => rfl⟩ (.inl rfl))
      simpa using hown
    · cases e
  | some ad =>
    refine wpList_append_own_at w hgd s x 25 ho B 5 i5 (.int .u8 0) 1 1 Tryd.underlying25 hi hz0 hz1 hz2 rfl (by decide) v n (bv ds) hs hown ad xs.length cap (bv xs) hx (by simp [bv]) hsl.src.2 (bv_one xs) (by unfold maxLen; omega) (by omega) hbase fun v' w' h1 h2 _ h4 => ?_
    exact h v' w' (by rw [bv_app]; exact h1) h2 h4
end
section
open Go.RowKit Go
/-! ### Seat: a tree of places, written over in place -/
/-- A seat's cells. -/
def scs (vb vt vv vu : Value) : Array Value := #[vb, vt, .slice none 0 0, .slice none 0 0, vv, vu, .slice none 0 0, .slice none 0 0]
/-- Pointers to seats. -/
def sps (qs : List Nat) : List Value := qs.map fun q => .pointer (some ⟨q, 0, none⟩)
/-- What lies in a seat: rows of bytes, texts, values, the seats under it, and the blocks of each of these. -/
structure Sd where
  vb : Value
  vt : Value
  vv : Value
  vu : Value
  nb : Nat
  nt : Nat
  nv : Nat
  xb : List Value
  xt : List Value
  xv : List Value
  qs : List Nat
  Ms : Nat → Nat → Prop
/-- A seat's own blocks. -/
def Sd.own (d : Sd) (p q : Nat) : Prop := q = p ∨ d.vb.ownBlock = some q ∨ d.vt.ownBlock = some q ∨ d.vv.ownBlock = some q ∨ d.vu.ownBlock = some q
structure Seb (w : World) (p : Nat) (M : Nat → Prop) (d : Sd) : Prop where
  fp : w.heap[p]? = some (.cells (scs d.vb d.vt d.vv d.vu) 32 (0, 0))
  fb : w.ownsRow 0 5 1 d.vb d.nb d.xb
  ft : w.ownsRow 0 9 1 d.vt d.nt d.xt
  fv : w.ownsRow 0 38 13 d.vv d.nv d.xv
  fu : w.ownsRow 0 24 1 d.vu d.qs.length (sps d.qs)
  mo : ∀ q, d.own p q → M q
  ms : ∀ i, i < d.qs.length → ∀ x, d.Ms i x → M x ∧ ¬ d.own p x
  md : ∀ i j, i < d.qs.length → j < d.qs.length → i ≠ j → ∀ x, d.Ms i x → ¬ d.Ms j x
  lt : ∀ x, M x → x < w.heap.size
/-- A seat and all beneath it, within these blocks. -/
inductive Sea (w : World) : Nat → (Nat → Prop) → Prop
  | mk (p : Nat) (M : Nat → Prop) (d : Sd) (h : Seb w p M d) (hc : ∀ (i q : Nat), d.qs[i]? = some q → Sea w q (d.Ms i)) : Sea w p M
theorem Seb.kp {w w' : World} {p : Nat} {M S : Nat → Prop} {d : Sd} (h : Seb w p M d) (hk : Kp S w w') (hs : ∀ q, d.own p q → ¬ S q) : Seb w' p M d :=
  ⟨(hk.block p (blk_lt h.fp) (hs p (.inl rfl))).trans h.fp, hk.owns h.fb (fun k e => hs k (.inr (.inl e))), hk.owns h.ft (fun k e => hs k (.inr (.inr (.inl e)))), hk.owns h.fv (fun k e => hs k (.inr (.inr (.inr (.inl e))))), hk.owns h.fu (fun k e => hs k (.inr (.inr (.inr (.inr e))))), h.mo, h.ms, h.md, fun x hx => Nat.lt_of_lt_of_le (h.lt x hx) hk.size⟩
theorem Sea.kp {w w' : World} {p : Nat} {M S : Nat → Prop} (h : Sea w p M) (hk : Kp S w w') : (∀ q, M q → ¬ S q) → Sea w' p M := by
  induction h with
  | mk p M d h hc ih =>
    intro hs
    refine Sea.mk p M d (h.kp hk (fun q hq => hs q (h.mo q hq))) fun i q hq => ih i q hq fun x hx => hs x (h.ms i (List.getElem?_eq_some_iff.1 hq).1 x hx).1
theorem Sea.lt {w : World} {p : Nat} {M : Nat → Prop} (h : Sea w p M) : ∀ x, M x → x < w.heap.size := by
  cases h with
  | mk _ _ d h hc => exact h.lt
theorem Sea.next {w w' : World} {p : Nat} {M : Nat → Prop} (h : Sea w p M) (hb : Below w.heap.size w w') : Sea w' p M := h.kp (Kp.of_below (S := fun _ => False) hb) (fun _ _ h => h)
/-- A new seat. -/
theorem Sea.new (w : World) : Sea (w.alloc (.cells (scs (.slice none 0 0) (.slice none 0 0) (.slice none 0 0) (.slice none 0 0)) 32)) w.heap.size (fun q => q = w.heap.size) := by
  refine Sea.mk _ _ ⟨.slice none 0 0, .slice none 0 0, .slice none 0 0, .slice none 0 0, 0, 0, 0, [], [], [], [], fun _ _ => False⟩ ⟨heap_alloc_new w _, World.ownsRow_nil _ _ _ _, World.ownsRow_nil _ _ _ _, World.ownsRow_nil _ _ _ _, World.ownsRow_nil _ _ _ _, ?_, fun i hi => by simp at hi, fun i j hi => by simp at hi, fun x hx => by rw [hx]; simp⟩ (fun i q hq => by simp at hq)
  rintro q (h | h | h | h | h)
  · exact h
  · cases h
  · cases h
  · cases h
  · cases h
/-- A value in memory, all of it within these blocks. -/
def Tiw (w : World) (M : Nat → Prop) (t : Tv) (cs : Array Value) : Prop := ∀ w2, Kp (fun q => ¬ M q) w w2 → Tin w2 t cs
theorem Tiw.tin {w : World} {M : Nat → Prop} {t : Tv} {cs : Array Value} (h : Tiw w M t cs) : Tin w t cs := h w (Kp.refl _ _)
theorem Tiw.kp {w w' : World} {M S : Nat → Prop} {t : Tv} {cs : Array Value} (h : Tiw w M t cs) (hk : Kp S w w') (hs : ∀ q, M q → ¬ S q) : Tiw w' M t cs := fun w2 h2 => h w2 ((hk.mono (fun k _ hS hM => hs k hM hS)).trans h2 (fun _ _ h => h))
theorem Tiw.mono {w : World} {M M' : Nat → Prop} {t : Tv} {cs : Array Value} (h : Tiw w M t cs) (hm : ∀ q, M q → M' q) : Tiw w M' t cs := fun w2 h2 => h w2 (h2.mono (fun _ _ h1 h3 => h1 (hm _ h3)))
set_option maxRecDepth 1000000 in
/-- 'append(l, x...)' of texts; where it lies. -/
theorem append_ssl_at {ops : Array Oper} {rest : List Oper} {o : Oper} {a : Act} {Q : Exit → Act → World → Prop} {w : World} (hgd : o.guard = none) (s x : Operand)
    (ho : o.op = .call { callee := .builtin .append, args := #[s, x], argTypes := #[26, 26] }) (B : Nat) (v : Value) (n : Nat) (ds : List ByteArray) (hs : a.eval s = v) (hown : w.ownsRow B 9 1 v n (sv ds))
    (u : Value) (es : List ByteArray) (hx : a.eval x = u) (hu : SSl w u es) (hlen : n + es.length < 1099511627776) (hbase : B ≤ w.heap.size)
    (h : ∀ v' w', w'.ownsRow B 9 1 v' (n + es.length) (sv (ds ++ es)) → w.grownBy w' v.ownBlock → (v'.ownBlock = v.ownBlock ∨ v'.ownBlock = some w.heap.size) → wpList Tryd.prog ops Q rest (a.put o.dst v') w') : wpList Tryd.prog ops Q (o :: rest) a w := by
  obtain ⟨i, hi, hz0, hz1, hz2⟩ := info9_ex
  obtain ⟨⟨ad, cap, rfl, hn, hc⟩, hmax, _⟩ := hu
  cases ad with
  | none =>
    have hc0 := hn.2 rfl
    have he : es = [] := List.length_eq_zero_iff.1 (by omega)
    subst hc0
    subst he
    refine wpList_append_own_none hgd s x 26 ho B 9 i 1 Tryd.underlying26 hi v n (sv ds) hs hown hx (h v w ?_ ⟨rfl, rfl, rfl, Nat.le_refl _, fun _ _ _ => rfl⟩ (.inl rfl))
    simpa using hown
  | some ad =>
    refine wpList_append_own_at w hgd s x 26 ho B 9 i (.string ⟨#[]⟩) 1 16 Tryd.underlying26 hi hz0 hz1 hz2 rfl (by decide) v n (sv ds) hs hown ad es.length cap (sv es) hx (by rw [sv_len, Nat.mul_one]) (fun j u hu => ?_) (sv_one es) (by unfold maxLen; omega) (by omega) hbase fun v' w' h1 h2 _ h4 => h v' w' (by rw [sv_app]; exact h1) h2 h4
    have hjl : j < es.length := by
      rcases Nat.lt_or_ge j es.length with h | h
      · exact h
      · rw [List.getElem?_eq_none (by rw [sv_len]; exact h)] at hu
        cases hu
    rcases hc with hc | ⟨b, off, e, hc⟩
    · rw [hc] at hjl
      simp at hjl
    · injection e with e
      subst e
      rw [sv_get (List.getElem?_eq_getElem hjl)] at hu
      injection hu with hu
      rw [addr_add, hc j _ (List.getElem?_eq_getElem hjl), hu]
end
section
open Go.RowKit Go
set_option maxRecDepth 1000000 in
set_option maxHeartbeats 1000000 in
/-- Seat.Bytes. -/
theorem sbytes_any (w : World) (p : Nat) (vb vt vv vu : Value) (nb : Nat) (xb : List Value) (hp : w.heap[p]? = some (.cells (scs vb vt vv vu) 32 (0, 0))) (hb : w.ownsRow 0 5 1 vb nb xb) (v : Value) (ys : List Nat) (hv : BSl w v ys) (hl : ys.length ≤ 140737488351232) :
    Calls Tryd.prog 19 #[.pointer (some ⟨p, 0, none⟩), v] w fun e w' => ∃ vb', e = .returned vb' ∧ w'.heap[p]? = some (.cells (scs vb' vt vv vu) 32 (0, 0)) ∧ w'.ownsRow 0 5 1 vb' ys.length (bv ys) ∧ Kp (fun q => q = p ∨ vb.ownBlock = some q) w w' ∧ ∀ q, vb'.ownBlock = some q → vb.ownBlock = some q ∨ w.heap.size ≤ q := by
  obtain ⟨a, c, rfl, _⟩ := own_form hb
  have HP := hide hp
  have HB := hide hb
  have HV := hide hv
  have HL := hide hl
  have HZ := hide (own_zero hb)
  have q0 : w.cell? ⟨p, 0, none⟩ = some (.slice a nb c) := blk_cell (j := 0) hp rfl
  obtain ⟨⟨av, cv, rfl, _, _⟩, _, _⟩ := hv
  clear hp hb hl
  go_enter Tryd.func19, Tryd.ntmps19
  go_wp2_with (at_builtin; refine append_bsl_at rfl _ _ rfl 0 _ 0 [] rfl HZ.out _ ys rfl HV.out ?b1 ?b2 ?_)
  case b1 => have := HL.out; omega
  case b2 => omega
  intro v2 w2 ho2 hg2 hn2
  have hk : Kp (fun q => (Value.slice a nb c).ownBlock = some q) w w2 := (Kp.refl _ _).grown hg2 (fun k _ h => by rw [own_blk a nb 0 c c]; exact h)
  have HPP := hide ((hk.block p (blk_lt HP.out) (fun e => own_not HB.out HP.out (by decide) e)).trans HP.out)
  have HN : Hid (∀ q, v2.ownBlock = some q → (Value.slice a nb c).ownBlock = some q ∨ w.heap.size ≤ q) := fun q hq => by
    rcases hn2 with e | e
    · left
      rw [own_blk a nb 0 c c, ← e]
      exact hq
    · right
      rw [e] at hq
      injection hq with hq
      omega
  have HKF : Hid (Kp (fun q => q = p ∨ (Value.slice a nb c).ownBlock = some q) w (w2.setCell ⟨p, 0, none⟩ v2)) := (hk.mono (fun _ _ h => .inr h)).setCell _ _ (fun _ => .inl rfl)
  have HBF : Hid ((w2.setCell ⟨p, 0, none⟩ v2).heap[p]? = some (.cells (scs v2 vt vv vu) 32 (0, 0))) := blk_set 0 v2 HPP.out
  have HOF : Hid ((w2.setCell ⟨p, 0, none⟩ v2).ownsRow 0 5 1 v2 ys.length (bv ys)) := ((Kp.refl (fun q => q = p) w2).setCell _ _ (fun _ => rfl)).owns (by simpa using ho2) (fun k hk' e => own_not ho2 HPP.out (by decide) (by rw [hk', e]))
  have f0 : w2.frozen? ⟨p, 0, none⟩ = false := blk_frozen 0 HPP.out
  have q2 : w2.cell? ⟨p, 0, none⟩ = some (.slice a nb c) := blk_cell (j := 0) HPP.out rfl
  have q3 : (w2.setCell ⟨p, 0, none⟩ v2).cell? ⟨p, 0, none⟩ = some v2 := blk_cell (j := 0) HBF.out rfl
  obtain ⟨a2, c2, e2, _⟩ := own_form ho2
  subst e2
  clear hk hg2 hn2 ho2 q0
  go_wp2_with fail
  go_ret
  exact ⟨_, rfl, HBF.out, HOF.out, HKF.out, HN.out⟩
set_option maxRecDepth 1000000 in
set_option maxHeartbeats 1000000 in
/-- Seat.Texts. -/
theorem stexts_any (w : World) (p : Nat) (vb vt vv vu : Value) (nt : Nat) (xt : List Value) (hp : w.heap[p]? = some (.cells (scs vb vt vv vu) 32 (0, 0))) (hb : w.ownsRow 0 9 1 vt nt xt) (v : Value) (ks : List ByteArray) (hv : SSl w v ks) (hl : ks.length ≤ 6000000) :
    Calls Tryd.prog 20 #[.pointer (some ⟨p, 0, none⟩), v] w fun e w' => ∃ vt', e = .returned vt' ∧ w'.heap[p]? = some (.cells (scs vb vt' vv vu) 32 (0, 0)) ∧ w'.ownsRow 0 9 1 vt' ks.length (sv ks) ∧ Kp (fun q => q = p ∨ vt.ownBlock = some q) w w' ∧ ∀ q, vt'.ownBlock = some q → vt.ownBlock = some q ∨ w.heap.size ≤ q := by
  obtain ⟨a, c, rfl, _⟩ := own_form hb
  have HP := hide hp
  have HB := hide hb
  have HV := hide hv
  have HL := hide hl
  have HZ := hide (own_zero hb)
  have q0 : w.cell? ⟨p, 1, none⟩ = some (.slice a nt c) := blk_cell (j := 1) hp rfl
  obtain ⟨⟨av, cv, rfl, _, _⟩, _, _⟩ := hv
  clear hp hb hl
  go_enter Tryd.func20, Tryd.ntmps20
  go_wp2_with (at_builtin; refine append_ssl_at rfl _ _ rfl 0 _ 0 [] rfl HZ.out _ ks rfl HV.out ?b1 ?b2 ?_)
  case b1 => have := HL.out; omega
  case b2 => omega
  intro v2 w2 ho2 hg2 hn2
  have hk : Kp (fun q => (Value.slice a nt c).ownBlock = some q) w w2 := (Kp.refl _ _).grown hg2 (fun k _ h => by rw [own_blk a nt 0 c c]; exact h)
  have HPP := hide ((hk.block p (blk_lt HP.out) (fun e => own_not HB.out HP.out (by decide) e)).trans HP.out)
  have HN : Hid (∀ q, v2.ownBlock = some q → (Value.slice a nt c).ownBlock = some q ∨ w.heap.size ≤ q) := fun q hq => by
    rcases hn2 with e | e
    · left
      rw [own_blk a nt 0 c c, ← e]
      exact hq
    · right
      rw [e] at hq
      injection hq with hq
      omega
  have HKF : Hid (Kp (fun q => q = p ∨ (Value.slice a nt c).ownBlock = some q) w (w2.setCell ⟨p, 1, none⟩ v2)) := (hk.mono (fun _ _ h => .inr h)).setCell _ _ (fun _ => .inl rfl)
  have HBF : Hid ((w2.setCell ⟨p, 1, none⟩ v2).heap[p]? = some (.cells (scs vb v2 vv vu) 32 (0, 0))) := blk_set 1 v2 HPP.out
  have HOF : Hid ((w2.setCell ⟨p, 1, none⟩ v2).ownsRow 0 9 1 v2 ks.length (sv ks)) := ((Kp.refl (fun q => q = p) w2).setCell _ _ (fun _ => rfl)).owns (by simpa using ho2) (fun k hk' e => own_not ho2 HPP.out (by decide) (by rw [hk', e]))
  have f0 : w2.frozen? ⟨p, 1, none⟩ = false := blk_frozen 1 HPP.out
  have q2 : w2.cell? ⟨p, 1, none⟩ = some (.slice a nt c) := blk_cell (j := 1) HPP.out rfl
  have q3 : (w2.setCell ⟨p, 1, none⟩ v2).cell? ⟨p, 1, none⟩ = some v2 := blk_cell (j := 1) HBF.out rfl
  obtain ⟨a2, c2, e2, _⟩ := own_form ho2
  subst e2
  clear hk hg2 hn2 ho2 q0
  go_wp2_with fail
  go_ret
  exact ⟨_, rfl, HBF.out, HOF.out, HKF.out, HN.out⟩
end
section
open Go.RowKit Go
theorem vfl_set : ∀ {L : List (Array Value)}, (∀ c ∈ L, c.size = 13) → ∀ (j : Nat) (c' : Array Value), j < L.length → c'.size = 13 → ∀ (X : List Value), (splice (vfl L ++ X) (j * 13) c'.toList).take (L.length * 13) = vfl (L.set j c')
  | [], _, j, _, h, _, _ => by simp at h
  | c :: r, hL, 0, c', _, hc, X => by
    have h1 : c.size = 13 := hL c (List.mem_cons_self ..)
    have e1 : vfl (c :: r) = c.toList ++ vfl r := by simp [vfl]
    have e2 : vfl ((c :: r).set 0 c') = c'.toList ++ vfl r := by simp [vfl]
    have h2 := vfl_len (l := r) (fun d hd => hL d (List.mem_cons_of_mem _ hd))
    rw [e1, e2]
    unfold splice
    have l1 : c.toList.length = 13 := by simpa using h1
    have l2 : c'.toList.length = 13 := by simpa using hc
    rw [Nat.zero_mul, List.take_zero, List.nil_append, Nat.zero_add, l2, List.append_assoc, List.drop_append_of_le_length (by omega), List.drop_of_length_le (by omega), List.nil_append, List.length_cons, List.take_append, l2, List.take_of_length_le (by omega)]
    congr 1
    rw [show (r.length + 1) * 13 - 13 = (vfl r).length by omega, List.take_append_of_le_length (by omega), List.take_length]
  | c :: r, hL, j + 1, c', hj, hc, X => by
    have h1 : c.size = 13 := hL c (List.mem_cons_self ..)
    have ih := vfl_set (L := r) (fun d hd => hL d (List.mem_cons_of_mem _ hd)) j c' (by simpa using hj) hc X
    have e1 : vfl (c :: r) = c.toList ++ vfl r := by simp [vfl]
    have e2 : vfl ((c :: r).set (j + 1) c') = c.toList ++ vfl (r.set j c') := by simp [vfl]
    have l1 : c.toList.length = 13 := by simpa using h1
    have l2 : c'.toList.length = 13 := by simpa using hc
    have h2 := vfl_len (l := r) (fun d hd => hL d (List.mem_cons_of_mem _ hd))
    have hsp : splice (c.toList ++ (vfl r ++ X)) ((j + 1) * 13) c'.toList = c.toList ++ splice (vfl r ++ X) (j * 13) c'.toList := by
      have hk : (j + 1) * 13 = c.toList.length + j * 13 := by omega
      unfold splice
      rw [hk, List.take_length_add_append, Nat.add_assoc, List.drop_length_add_append, List.append_assoc]
    rw [e1, e2, ← ih, List.append_assoc, hsp]
    have hk2 : (c :: r).length * 13 = c.toList.length + r.length * 13 := by rw [List.length_cons]; omega
    rw [hk2, List.take_length_add_append]
/-- One item of a row of values is written over. -/
theorem own_part {w w' : World} {B g n cap : Nat} {L : List (Array Value)} {cur : Array Value} {j : Nat} {c' : Array Value} (h : w.ownsRow B 38 13 (.slice (some ⟨g, 0, none⟩) n cap) n (vfl L)) (hL : L.length = n) (h13 : ∀ c ∈ L, c.size = 13) (hg : w.heap[g]? = some (.cells cur 38 (0, 0))) (hj : j < n) (hc : c'.size = 13)
    (hw : w'.heap[g]? = some (.cells (splice cur.toList (j * 13) c'.toList).toArray 38 (0, 0))) : w'.ownsRow B 38 13 (.slice (some ⟨g, 0, none⟩) n cap) n (vfl (L.set j c')) := by
  rcases h.2 with ⟨hv, _⟩ | ⟨g', cap', cur', hv, hb, hg', h1, h2, h3, h4⟩
  · cases hv
  injection hv with e1 e2 e3
  injection e1 with e1
  injection e1 with e1 _ _
  subst e1
  subst e3
  rw [hg'] at hg
  injection hg with hg
  injection hg with hg _ _
  subst hg
  have l13 := vfl_len h13
  have hlc : cur'.toList.length = cap * 13 := by simpa using h3
  have hcl : c'.toList.length = 13 := by simpa using hc
  have hs13 : ∀ c ∈ L.set j c', c.size = 13 := fun d hd => by
    rcases List.mem_or_eq_of_mem_set hd with e | e
    · exact h13 d e
    · rw [e]; exact hc
  refine ⟨by rw [vfl_len hs13, List.length_set, hL], .inr ⟨g, cap, _, rfl, hb, hw, h1, h2, ?_, ?_⟩⟩
  · rw [List.size_toArray, length_splice _ _ _ (by omega), hlc]
  · have e : cur'.toList = vfl L ++ cur'.toList.drop (n * 13) := by
      conv => lhs; rw [← List.take_append_drop (n * 13) cur'.toList, h4]
    rw [e, List.toList_toArray]
    have := vfl_set h13 j c' (by omega) hc (cur'.toList.drop (n * 13))
    rw [hL] at this
    exact this
end
section
open Go.RowKit Go
/-! ### Seat.Values: what stands in its loop -/
/-- The blocks that Values may write: the seat's cells, its row of values, its row of seats, and all beneath. -/
def Sd.inn (d : Sd) (p q : Nat) : Prop := q = p ∨ d.vv.ownBlock = some q ∨ d.vu.ownBlock = some q ∨ ∃ i, i < d.qs.length ∧ d.Ms i q
/-- So many values were laid: their cells are L. -/
structure Svs (w wx : World) (p : Nat) (d0 d : Sd) (ts : List Tv) (L : List (Array Value)) : Prop where
  k : Kp (d0.inn p) w wx
  fp : wx.heap[p]? = some (.cells (scs d0.vb d0.vt d.vv d.vu) 32 (0, 0))
  fv : wx.ownsRow 0 38 13 d.vv L.length (vfl L)
  fu : wx.ownsRow 0 24 1 d.vu d.qs.length (sps d.qs)
  ms : ∀ i, i < d.qs.length → ∀ x, d.Ms i x → x ≠ p ∧ d.vv.ownBlock ≠ some x ∧ d.vu.ownBlock ≠ some x
  md : ∀ i j, i < d.qs.length → j < d.qs.length → i ≠ j → ∀ x, d.Ms i x → ¬ d.Ms j x
  nw : ∀ x, d.inn p x → d0.inn p x ∨ w.heap.size ≤ x
  c : ∀ (i q : Nat), d.qs[i]? = some q → Sea wx q (d.Ms i)
  s : ∀ c ∈ L, c.size = 13
  t : ∀ (i : Nat) (u : Tv) (c : Array Value), ts[i]? = some u → L[i]? = some c → i < d.qs.length ∧ Tiw wx (d.Ms i) u c
  q : L.length ≤ d.qs.length
  z : w.heap.size ≤ wx.heap.size
theorem Svs.lt {w wx : World} {p : Nat} {d0 d : Sd} {ts : List Tv} {L : List (Array Value)} (h : Svs w wx p d0 d ts L) {i x : Nat} (hi : i < d.qs.length) (hx : d.Ms i x) : x < wx.heap.size := (h.c i _ (List.getElem?_eq_getElem hi)).lt x hx
/-- At the beginning: no values. -/
theorem Svs.start {w : World} {p : Nat} {M : Nat → Prop} {d : Sd} {ts : List Tv} (h : Seb w p M d) (hc : ∀ (i q : Nat), d.qs[i]? = some q → Sea w q (d.Ms i)) {a : Option Addr} {n c : Nat} (hv : d.vv = .slice a n c) : Svs w (w.setCell ⟨p, 4, none⟩ (.slice a 0 c)) p d { d with vv := .slice a 0 c, nv := 0, xv := [] } ts [] := by
  have hk : Kp (fun q => q = p) w (w.setCell ⟨p, 4, none⟩ (.slice a 0 c)) := (Kp.refl _ _).setCell _ _ (fun _ => rfl)
  have hvb : (Value.slice a 0 c).ownBlock = d.vv.ownBlock := by rw [hv]; exact own_blk a 0 n c c
  refine ⟨hk.mono (fun q _ e => .inl e), blk_set 4 _ h.fp, hk.owns ?_ (fun q hq e => own_not h.fv h.fp (by decide) (by rw [← hvb, hq, e])), hk.owns h.fu (fun q hq e => own_not h.fu h.fp (by decide) (by rw [hq, e])), fun i hi x hx => ?_, h.md, fun x hx => .inl ?_, fun i q hq => (hc i q hq).kp hk (fun x hx e => (h.ms i (List.getElem?_eq_some_iff.1 hq).1 x hx).2 (.inl e)), fun c hc => by simp at hc, fun i u c _ hc => by simp at hc, Nat.zero_le _, hk.size⟩
  · have h0 := h.fv
    rw [hv] at h0
    rcases h0.2 with ⟨e, h1⟩ | ⟨g, c', cur, e, hg, hb, h1, h2, h3, h4⟩
    · injection e with e1 e2 e3
      subst e1 e3
      exact World.ownsRow_nil _ _ _ _
    · injection e with e1 e2 e3
      subst e1 e3
      exact ⟨by simp [vfl], .inr ⟨g, c, cur, rfl, hg, hb, Nat.zero_le _, h2, h3, by simp [vfl]⟩⟩
  · have h1 := (h.ms i hi x hx).2
    refine ⟨fun e => h1 (.inl e), fun e => h1 (.inr (.inr (.inr (.inl ?_)))), fun e => h1 (.inr (.inr (.inr (.inr e))))⟩
    rw [← hvb]
    exact e
  · rcases hx with e | e | e | e
    · exact .inl e
    · refine .inr (.inl ?_)
      rw [← hvb]
      exact e
    · exact .inr (.inr (.inl e))
    · exact .inr (.inr (.inr e))
/-- Nothing of the loop's was written. -/
theorem Svs.next {w wx wy : World} {p : Nat} {d0 d : Sd} {ts : List Tv} {L : List (Array Value)} (h : Svs w wx p d0 d ts L) (hb : Below wx.heap.size wx wy) : Svs w wy p d0 d ts L := by
  have hk : Kp (fun _ => False) wx wy := Kp.of_below hb
  exact ⟨h.k.trans (Kp.of_below (S := d0.inn p) hb) (fun _ _ e => e), (hk.block p (blk_lt h.fp) (fun e => e)).trans h.fp, hk.owns h.fv (fun _ _ e => e), hk.owns h.fu (fun _ _ e => e), h.ms, h.md, h.nw, fun i q hq => (h.c i q hq).kp hk (fun _ _ e => e), h.s, fun i u c hu hc => ⟨(h.t i u c hu hc).1, (h.t i u c hu hc).2.kp hk (fun _ _ e => e)⟩, h.q, Nat.le_trans h.z hb.size⟩
end
section
open Go.RowKit Go
/-- One seat more under it. -/
theorem Svs.more {w wx w2 : World} {p : Nat} {d0 d : Sd} {ts : List Tv} {L : List (Array Value)} {vu' : Value} (h : Svs w wx p d0 d ts L)
    (hk : Kp (fun q => d.vu.ownBlock = some q) (wx.alloc (.cells (scs (.slice none 0 0) (.slice none 0 0) (.slice none 0 0) (.slice none 0 0)) 32)) w2)
    (ho : w2.ownsRow 0 24 1 vu' (d.qs.length + 1) (sps (d.qs ++ [wx.heap.size])))
    (hn : ∀ q, vu'.ownBlock = some q → d.vu.ownBlock = some q ∨ wx.heap.size + 1 ≤ q) :
    Svs w (w2.setCell ⟨p, 5, none⟩ vu') p d0 { d with vu := vu', qs := d.qs ++ [wx.heap.size], Ms := fun j x => if j = d.qs.length then x = wx.heap.size else d.Ms j x } ts L := by
  have hz1 : (wx.alloc (.cells (scs (.slice none 0 0) (.slice none 0 0) (.slice none 0 0) (.slice none 0 0)) 32)).heap.size = wx.heap.size + 1 := by simp
  have hnew := Sea.new wx
  have hb1 := below_alloc4 wx (.cells (scs (.slice none 0 0) (.slice none 0 0) (.slice none 0 0) (.slice none 0 0)) 32)
  have k02 : Kp (fun q => d.vu.ownBlock = some q) wx w2 := (Kp.of_below (S := fun q => d.vu.ownBlock = some q) hb1).trans hk (fun _ _ e => e)
  have fp2 := (k02.block p (blk_lt h.fp) (fun e => own_not h.fu h.fp (by decide) e)).trans h.fp
  have k23 : Kp (fun q => q = p) w2 (w2.setCell ⟨p, 5, none⟩ vu') := (Kp.refl _ _).setCell _ _ (fun _ => rfl)
  have k03 : Kp (fun q => q = p ∨ d.vu.ownBlock = some q) wx (w2.setCell ⟨p, 5, none⟩ vu') := (k02.mono (fun _ _ e => .inr e)).trans k23 (fun _ _ e => .inl e)
  have hpl := blk_lt h.fp
  have hvl : ∀ q, d.vv.ownBlock = some q → q < wx.heap.size := fun q hq => (h.fv.lt q hq).2
  have hul : ∀ q, d.vu.ownBlock = some q → q < wx.heap.size := fun q hq => (h.fu.lt q hq).2
  have hwz := h.z
  refine ⟨h.k.trans k03 (fun q hq e => ?_), blk_set 5 vu' fp2, k03.owns h.fv (fun q hq e => ?_), ?_, fun i hi x hx => ?_, fun i j hi hj hij x hx hy => ?_, fun x hx => ?_, fun i q hq => ?_, h.s, fun i u c hu hc => ?_, ?_, Nat.le_trans h.z k03.size⟩
  · rcases e with e | e
    · exact .inl e
    · exact (h.nw q (.inr (.inr (.inl e)))).resolve_right (by omega)
  · rcases e with e | e
    · exact own_not h.fv h.fp (by decide) (by rw [hq, e])
    · exact own_apart h.fv h.fu (by decide) hq e
  · show World.ownsRow _ _ _ _ _ (d.qs ++ [wx.heap.size]).length _
    rw [List.length_append, List.length_singleton]
    exact k23.owns ho (fun q hq e => own_not ho fp2 (by decide) (by rw [hq, e]))
  · have hi' : i < d.qs.length + 1 := by simpa using hi
    have hx' : if i = d.qs.length then x = wx.heap.size else d.Ms i x := hx
    by_cases e : i = d.qs.length
    · rw [if_pos e] at hx'
      refine ⟨by omega, fun e2 => by have := hvl x e2; omega, fun e2 => ?_⟩
      rcases hn x e2 with h3 | h3
      · have := hul x h3
        omega
      · omega
    · rw [if_neg e] at hx'
      have hil : i < d.qs.length := by omega
      have h1 := h.ms i hil x hx'
      refine ⟨h1.1, h1.2.1, fun e2 => ?_⟩
      rcases hn x e2 with h3 | h3
      · exact h1.2.2 h3
      · have := h.lt hil hx'
        omega
  · have hi' : i < d.qs.length + 1 := by simpa using hi
    have hj' : j < d.qs.length + 1 := by simpa using hj
    have hx' : if i = d.qs.length then x = wx.heap.size else d.Ms i x := hx
    have hy' : if j = d.qs.length then x = wx.heap.size else d.Ms j x := hy
    by_cases e : i = d.qs.length
    · rw [if_pos e] at hx'
      rw [if_neg (by omega)] at hy'
      have := h.lt (show j < d.qs.length by omega) hy'
      omega
    · rw [if_neg e] at hx'
      by_cases e2 : j = d.qs.length
      · rw [if_pos e2] at hy'
        have := h.lt (show i < d.qs.length by omega) hx'
        omega
      · rw [if_neg e2] at hy'
        exact h.md i j (by omega) (by omega) hij x hx' hy'
  · rcases hx with e | e | e | ⟨i, hi, e⟩
    · exact .inl (.inl e)
    · exact h.nw x (.inr (.inl e))
    · rcases hn x e with h3 | h3
      · exact h.nw x (.inr (.inr (.inl h3)))
      · exact .inr (by omega)
    · have hi' : i < d.qs.length + 1 := by simpa using hi
      have hx' : if i = d.qs.length then x = wx.heap.size else d.Ms i x := e
      by_cases e2 : i = d.qs.length
      · rw [if_pos e2] at hx'
        exact .inr (by omega)
      · rw [if_neg e2] at hx'
        exact h.nw x (.inr (.inr (.inr ⟨i, by omega, hx'⟩)))
  · have hq' : (d.qs ++ [wx.heap.size])[i]? = some q := hq
    show Sea _ q (fun x => if i = d.qs.length then x = wx.heap.size else d.Ms i x)
    by_cases e : i < d.qs.length
    · rw [List.getElem?_append_left e] at hq'
      have e2 : (fun x => if i = d.qs.length then x = wx.heap.size else d.Ms i x) = d.Ms i := by
        funext x
        rw [if_neg (by omega)]
      rw [e2]
      exact (h.c i q hq').kp k03 (fun x hx e3 => by
        have h1 := h.ms i e x hx
        rcases e3 with e3 | e3
        · exact h1.1 e3
        · exact h1.2.2 e3)
    · have hl := (List.getElem?_eq_some_iff.1 hq').1
      rw [List.length_append, List.length_singleton] at hl
      have e2 : i = d.qs.length := by omega
      subst e2
      rw [List.getElem?_append_right (Nat.le_refl _), Nat.sub_self] at hq'
      injection hq' with hq'
      subst hq'
      have e3 : (fun x => if d.qs.length = d.qs.length then x = wx.heap.size else d.Ms d.qs.length x) = (fun x => x = wx.heap.size) := by
        funext x
        rw [if_pos rfl]
      rw [e3]
      exact (hnew.kp hk (fun x hx e4 => by have := hul x e4; omega)).kp k23 (fun x hx e4 => by omega)
  · obtain ⟨h1, h2⟩ := h.t i u c hu hc
    refine ⟨by show i < (d.qs ++ [wx.heap.size]).length; rw [List.length_append, List.length_singleton]; omega, ?_⟩
    show Tiw _ (fun x => if i = d.qs.length then x = wx.heap.size else d.Ms i x) u c
    have e2 : (fun x => if i = d.qs.length then x = wx.heap.size else d.Ms i x) = d.Ms i := by
      funext x
      rw [if_neg (by omega)]
    rw [e2]
    exact h2.kp k03 (fun x hx e3 => by
      have h1 := h.ms i h1 x hx
      rcases e3 with e3 | e3
      · exact h1.1 e3
      · exact h1.2.2 e3)
  · show L.length ≤ (d.qs ++ [wx.heap.size]).length
    rw [List.length_append, List.length_singleton]
    have := h.q
    omega
/-- One value more. -/
theorem Svs.take {w wx wz : World} {p : Nat} {d0 d : Sd} {ts : List Tv} {L : List (Array Value)} {vv' : Value} {g : Nat} {M : Nat → Prop} {u : Tv} {c : Array Value} (h : Svs w wx p d0 d ts L) (hi : L.length < d.qs.length) (hg : d.qs[L.length]? = some g) (hu : ts[L.length]? = some u)
    (k : Kp (fun q => d.Ms L.length q ∨ d.vv.ownBlock = some q ∨ q = p) wx wz) (b : wz.heap[p]? = some (.cells (scs d0.vb d0.vt vv' d.vu) 32 (0, 0))) (o : wz.ownsRow 0 38 13 vv' (L.length + 1) (vfl (L ++ [c])))
    (n : ∀ q, vv'.ownBlock = some q → d.vv.ownBlock = some q ∨ wx.heap.size ≤ q) (s : Sea wz g M) (m : ∀ x, M x → d.Ms L.length x ∨ wx.heap.size ≤ x) (tt : Tiw wz M u c) (x : ∀ q, vv'.ownBlock = some q → ¬ M q) (c13 : c.size = 13) (nu : ∀ q, d.vu.ownBlock = some q → ¬ M q) :
    Svs w wz p d0 { d with vv := vv', Ms := fun j y => if j = L.length then M y else d.Ms j y } ts (L ++ [c]) := by
  have hwz := h.z
  have hpl := blk_lt h.fp
  have hvl : ∀ q, d.vv.ownBlock = some q → q < wx.heap.size := fun q hq => (h.fv.lt q hq).2
  have hul : ∀ q, d.vu.ownBlock = some q → q < wx.heap.size := fun q hq => (h.fu.lt q hq).2
  have hms := h.ms L.length hi
  have hMs : ∀ j, j ≠ L.length → (fun y => if j = L.length then M y else d.Ms j y) = d.Ms j := fun j hj => by funext y; rw [if_neg hj]
  have hMi : (fun y => if L.length = L.length then M y else d.Ms L.length y) = M := by funext y; rw [if_pos rfl]
  have oth : ∀ j, j < d.qs.length → j ≠ L.length → ∀ y, d.Ms j y → ¬ (d.Ms L.length y ∨ d.vv.ownBlock = some y ∨ y = p) := fun j hj hne y hy e => by
    have h1 := h.ms j hj y hy
    rcases e with e | e | e
    · exact h.md j L.length hj hi hne y hy e
    · exact h1.2.1 e
    · exact h1.1 e
  refine ⟨h.k.trans k (fun q hq e => ?_), b, ?_, k.owns h.fu (fun q hq e => ?_), fun i hi' y hy => ?_, fun i j hi' hj' hij y hy1 hy2 => ?_, fun y hy => ?_, fun i q hq => ?_, fun e he => ?_, fun i v e hv he => ?_, ?_, Nat.le_trans h.z k.size⟩
  · rcases e with e | e | e
    · exact (h.nw q (.inr (.inr (.inr ⟨_, hi, e⟩)))).resolve_right (by omega)
    · exact (h.nw q (.inr (.inl e))).resolve_right (by omega)
    · exact .inl e
  · rw [List.length_append, List.length_singleton]
    exact o
  · rcases e with e | e | e
    · exact (hms q e).2.2 hq
    · exact own_apart h.fu h.fv (by decide) hq e
    · exact own_not h.fu h.fp (by decide) (by rw [hq, e])
  · have hy' : if i = L.length then M y else d.Ms i y := hy
    by_cases e : i = L.length
    · rw [if_pos e] at hy'
      refine ⟨fun e2 => ?_, fun e2 => x y e2 hy', fun e2 => nu y e2 hy'⟩
      rcases m y hy' with h1 | h1
      · exact (hms y h1).1 e2
      · omega
    · rw [if_neg e] at hy'
      have h1 := h.ms i hi' y hy'
      refine ⟨h1.1, fun e2 => ?_, h1.2.2⟩
      rcases n y e2 with h3 | h3
      · exact h1.2.1 h3
      · have := h.lt hi' hy'
        omega
  · have a1 : if i = L.length then M y else d.Ms i y := hy1
    have a2 : if j = L.length then M y else d.Ms j y := hy2
    by_cases e : i = L.length
    · rw [if_pos e] at a1
      rw [if_neg (by omega)] at a2
      rcases m y a1 with h1 | h1
      · exact h.md j L.length hj' hi (by omega) y a2 h1
      · have := h.lt hj' a2
        omega
    · rw [if_neg e] at a1
      by_cases e2 : j = L.length
      · rw [if_pos e2] at a2
        rcases m y a2 with h1 | h1
        · exact h.md i L.length hi' hi e y a1 h1
        · have := h.lt hi' a1
          omega
      · rw [if_neg e2] at a2
        exact h.md i j hi' hj' hij y a1 a2
  · rcases hy with e | e | e | ⟨i, hi', e⟩
    · exact .inl (.inl e)
    · rcases n y e with h3 | h3
      · exact h.nw y (.inr (.inl h3))
      · exact .inr (by omega)
    · exact h.nw y (.inr (.inr (.inl e)))
    · have hy' : if i = L.length then M y else d.Ms i y := e
      by_cases e2 : i = L.length
      · rw [if_pos e2] at hy'
        rcases m y hy' with h1 | h1
        · exact h.nw y (.inr (.inr (.inr ⟨_, hi, h1⟩)))
        · exact .inr (by omega)
      · rw [if_neg e2] at hy'
        exact h.nw y (.inr (.inr (.inr ⟨i, hi', hy'⟩)))
  · have hl := (List.getElem?_eq_some_iff.1 hq).1
    show Sea _ q (fun y => if i = L.length then M y else d.Ms i y)
    by_cases e : i = L.length
    · subst e
      have e2 : g = q := Option.some.inj (hg.symm.trans hq)
      subst e2
      rw [hMi]
      exact s
    · rw [hMs i e]
      exact (h.c i q hq).kp k (fun y hy => oth i hl e y hy)
  · rcases List.mem_append.1 he with he | he
    · exact h.s e he
    · rw [List.mem_singleton.1 he]
      exact c13
  · have hl := (List.getElem?_eq_some_iff.1 he).1
    rw [List.length_append, List.length_singleton] at hl
    show i < d.qs.length ∧ Tiw _ (fun y => if i = L.length then M y else d.Ms i y) v e
    by_cases e1 : i < L.length
    · rw [List.getElem?_append_left e1] at he
      obtain ⟨h1, h2⟩ := h.t i v e hv he
      refine ⟨h1, ?_⟩
      rw [hMs i (by omega)]
      exact h2.kp k (fun y hy => oth i h1 (by omega) y hy)
    · have e2 : i = L.length := by omega
      subst e2
      rw [List.getElem?_append_right (Nat.le_refl _), Nat.sub_self] at he
      injection he with he
      subst he
      have e3 : u = v := Option.some.inj (hu.symm.trans hv)
      subst e3
      refine ⟨hi, ?_⟩
      rw [hMi]
      exact tt
  · rw [List.length_append, List.length_singleton]
    exact hi
end
section
open Go.RowKit Go
/-- The value was told, the row has one more, both were written. -/
theorem Svs.put {w wd wy w3 : World} {p : Nat} {d0 d : Sd} {ts : List Tv} {L : List (Array Value)} {g gi c5 : Nat} {M : Nat → Prop} {u : Tv} {c cur : Array Value} (h : Svs w wd p d0 d ts L) (hi : L.length < d.qs.length) (hg : d.qs[L.length]? = some g) (hu : ts[L.length]? = some u)
    (k : Kp (d.Ms L.length) wd wy) (s : Sea wy g M) (m : ∀ x, M x → d.Ms L.length x ∨ wd.heap.size ≤ x) (tt : Tiw wy M u c) (c13 : c.size = 13)
    (hk : Kp (fun q => d.vv.ownBlock = some q) wy w3) (ho : w3.ownsRow 0 38 13 (.slice (some ⟨gi, 0, none⟩) (L.length + 1) c5) (L.length + 1) (vfl L ++ zv.toList)) (hn : d.vv.ownBlock = some gi ∨ gi = wy.heap.size) (hcur : w3.heap[gi]? = some (.cells cur 38 (0, 0))) :
    Svs w ((w3.setRow gi (splice cur.toList (L.length * 13) c.toList).toArray).setCell ⟨p, 4, none⟩ (.slice (some ⟨gi, 0, none⟩) (L.length + 1) c5)) p d0 { d with vv := .slice (some ⟨gi, 0, none⟩) (L.length + 1) c5, Ms := fun j y => if j = L.length then M y else d.Ms j y } ts (L ++ [c]) := by
  have hpl := blk_lt h.fp
  have hyz := k.size
  have hms := h.ms L.length hi
  have hvl : ∀ q, d.vv.ownBlock = some q → q < wd.heap.size := fun q hq => (h.fv.lt q hq).2
  have hul : ∀ q, d.vu.ownBlock = some q → q < wd.heap.size := fun q hq => (h.fu.lt q hq).2
  have nvp : d.vv.ownBlock ≠ some p := own_not h.fv h.fp (by decide)
  have ngp : gi ≠ p := fun e => by
    rcases hn with h1 | h1
    · exact nvp (by rw [← e]; exact h1)
    · omega
  have nMv : ∀ x, M x → d.vv.ownBlock ≠ some x := fun x hx e => by
    rcases m x hx with h1 | h1
    · exact (hms x h1).2.1 e
    · have := hvl x e
      omega
  have nMg : ∀ x, M x → ¬ x = gi := fun x hx e => by
    rcases hn with h1 | h1
    · exact nMv x hx (by rw [e]; exact h1)
    · have := s.lt x hx
      omega
  have nMp : ∀ x, M x → ¬ x = p := fun x hx e => by
    rcases m x hx with h1 | h1
    · exact (hms x h1).1 e
    · omega
  have k4 := row_kp w3 gi (splice cur.toList (L.length * 13) c.toList).toArray
  have k5 : Kp (fun q => q = p) (w3.setRow gi (splice cur.toList (L.length * 13) c.toList).toArray) ((w3.setRow gi (splice cur.toList (L.length * 13) c.toList).toArray).setCell ⟨p, 4, none⟩ (.slice (some ⟨gi, 0, none⟩) (L.length + 1) c5)) := (Kp.refl _ _).setCell _ _ (fun _ => rfl)
  have fpy := (k.block p hpl (fun e => (hms p e).1 rfl)).trans h.fp
  have fp3 := (hk.block p (blk_lt fpy) nvp).trans fpy
  have fp4 := (k4.block p (blk_lt fp3) (fun e => ngp e.symm)).trans fp3
  refine h.take hi hg hu ?_ (blk_set 4 _ fp4) (k5.owns ?_ (fun q hq e => ?_)) (fun q hq => ?_) (((s.kp hk nMv).kp k4 nMg).kp k5 nMp) m (((tt.kp hk nMv).kp k4 nMg).kp k5 nMp) (fun q hq hM => ?_) c13 (fun q hq hM => ?_)
  · refine (((k.mono (fun q _ e => .inl e)).trans hk (fun q _ e => .inr (.inl e))).trans k4 (fun q hq e => ?_)).trans k5 (fun q _ e => .inr (.inr e))
    rcases hn with h1 | h1
    · exact .inr (.inl (by rw [e]; exact h1))
    · omega
  · have e1 : vfl L ++ zv.toList = vfl (L ++ [zv]) := by rw [vfl_app]; simp [vfl]
    rw [e1] at ho
    have h1 := own_part (c' := c) (j := L.length) ho (by rw [List.length_append, List.length_singleton]) (fun e he => by
      rcases List.mem_append.1 he with he | he
      · exact h.s e he
      · rw [List.mem_singleton.1 he]
        rfl) hcur (by omega) c13 (row_same hcur)
    have e2 : (L ++ [zv]).set L.length c = L ++ [c] := by
      rw [List.set_append_right _ _ (Nat.le_refl _), Nat.sub_self]
      rfl
    rw [e2] at h1
    exact h1
  · have e2 : gi = q := by simpa [Value.ownBlock] using hq
    omega
  · have e2 : gi = q := by simpa [Value.ownBlock] using hq
    subst e2
    rcases hn with h1 | h1
    · exact .inl h1
    · exact .inr (by omega)
  · have e2 : gi = q := by simpa [Value.ownBlock] using hq
    exact nMg q hM e2.symm
  · rcases m q hM with h1 | h1
    · exact (hms q h1).2.2 hq
    · have := hul q hq
      omega
theorem infoS_ex : ∃ i, Tryd.prog.info? 24 = some i ∧ i.zero = some (.pointer none) ∧ i.size = 1 ∧ i.bytes = 8 := by
  have h : (Tryd.prog.info? 24).map (fun i => (i.zero, i.size, i.bytes)) = some (some (.pointer none), 1, 8) := by kernel_rfl
  cases hi : Tryd.prog.info? 24 with
  | none => rw [hi] at h; cases h
  | some i =>
    rw [hi] at h
    injection h with h
    injection h with h1 h2
    injection h2 with h2 h3
    exact ⟨i, rfl, h1, h2, h3⟩
set_option maxRecDepth 1000000 in
/-- 'append(l, p)' of pointers to seats. -/
theorem append_sp {ops : Array Oper} {rest : List Oper} {o : Oper} {a : Act} {Q : Exit → Act → World → Prop} {w : World} (hgd : o.guard = none) (s x : Operand)
    (ho : o.op = .call { callee := .builtin .append, args := #[s, x], argTypes := #[29, 29] }) (v : Value) (n : Nat) (ds : List Value) (hs : a.eval s = v) (hown : w.ownsRow 0 24 1 v n ds)
    (y : Value) (S : Nat) (hS : w.heap.size = S) (hx : a.eval x = .slice (some ⟨S, 0, none⟩) 1 1) (hone : y.oneCell' = true) (hlen : n < 1099511627776)
    (h : ∀ v' w', w'.ownsRow 0 24 1 v' (n + 1) (ds ++ [y]) → (w.alloc (.cells #[y] 24)).grownBy w' v.ownBlock → (v'.ownBlock = v.ownBlock ∨ v'.ownBlock = some (w.heap.size + 1)) → wpList Tryd.prog ops Q rest (a.put o.dst v') w') : wpList Tryd.prog ops Q (o :: rest) a (w.alloc (.cells #[y] 24)) := by
  obtain ⟨i, hi, hz0, hz1, hz2⟩ := infoS_ex
  subst hS
  refine wpList_append_own_at _ hgd s x 29 ho 0 24 i (.pointer none) 1 8 Tryd.underlying29 hi hz0 hz1 hz2 rfl (by decide) v n ds hs (hown.alloc _) ⟨w.heap.size, 0, none⟩ 1 1 [y] hx rfl (cell_one_new _ _ _) ?_ (by unfold maxLen; omega) (by omega) (by simp) fun v' w' h1 h2 _ h4 => h v' w' h1 h2 (by simpa using h4)
  intro u hu
  simp at hu
  rw [hu]
  exact hone
end
section
open Go.RowKit
/-! ### Heads, plainly -/
def hinfo (n : Nat) : Nat := if n < 24 then n else if n < 256 then 24 else if n < 65536 then 25 else if n < 4294967296 then 26 else 27
def hwide (i : Nat) : Nat := if i = 24 then 1 else if i = 25 then 2 else if i = 26 then 4 else if i = 27 then 8 else 0
/-- A number in so many bytes, the highest first. -/
def be : Nat → Nat → List Nat
  | 0, _ => []
  | k + 1, n => (n / 256 ^ k % 256) :: be k n
def hl (m n : Nat) : List Nat := (32 * m + hinfo n) :: be (hwide (hinfo n)) n
def hsize (n : Nat) : Nat := 1 + hwide (hinfo n)
structure HR where
  m : Nat
  i : Nat
  n : Nat
  u : Nat
  s : Bool
  e : Nat
end
section
open Go.RowKit Go
/-! ### Strict reading, plainly -/
end
section
open Go.RowKit
/-- There are heads of this major and info. -/
def hmay (m i : Nat) : Prop := ¬ 27 < i ∨ (i = 31 ∧ m ≠ 0 ∧ m ≠ 1 ∧ m ≠ 6)
instance (m i : Nat) : Decidable (hmay m i) := by unfold hmay; infer_instance
end
section
open Go.RowKit

end
section
open Go.RowKit

end
section
open Go.RowKit

end
section
open Go.RowKit

end
section
open Go.RowKit Go
/-! ### An item that is looked at, in memory -/
end
section
open Go.RowKit Go
theorem wpList_exec {ops : Array Oper} {rest : List Oper} {o : Oper} {a : Act} {Q : Exit → Act → World → Prop} {w : World} {v : Value} (hgd : o.guard = none) (hr : (execOp a.eval o).run Tryd.prog w = .ok (.value v) w) (h : wpList Tryd.prog ops Q rest (a.put o.dst v) w) : wpList Tryd.prog ops Q (o :: rest) a w := by
  refine wpList_plain hgd fun K hK => ?_
  unfold Oper.wp
  rw [hr]
  exact hK _ _ h
end
section
open Go.RowKit Go

end
section
open Go.RowKit Go

end
section
open Go.RowKit Go

end
section
open Go.RowKit Go

end
section
open Go.RowKit Go
/-! ### The lists and maps that are open, in memory -/
end
end Go.Proofs.YtglbllkmhedlfaaDoor
