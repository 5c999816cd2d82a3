import Derived.Test.YtfjdpooaipehmaaLtb
namespace Go.Proofs.Ytfjdpooaipehmaa
open Go.RowKit

theorem nstr_size (xs : List Nat) : (nstr xs).size = xs.length := by unfold nstr; rw [strOfNums_size]; simp
theorem nstr_get (xs : List Nat) (hx : ∀ x ∈ xs, x < 256) : (nstr xs).data.toList.map (fun b => Value.int .u8 (b.toNat : Int)) = bv xs := by
  simp only [nstr, strOfNums_data, List.map_map, bv]
  apply List.map_congr_left
  intro x h
  have := hx x h
  simp
  omega

theorem bytesRow_get (xs : List Nat) (hx : ∀ x ∈ xs, x < 256) (cap j : Nat) (hj : j < xs.length) : (bytesRow (nstr xs) cap)[j]? = some (.int .u8 ((xs.getD j 0 : Nat) : Int)) := by
  have hl : ((nstr xs).data.map fun b => Value.int .u8 (b.toNat : Int)).toList = bv xs := by rw [Array.toList_map]; exact nstr_get xs hx
  have hs : ((nstr xs).data.map fun b => Value.int .u8 (b.toNat : Int)).size = xs.length := by rw [← Array.length_toList, hl, bv_len]
  unfold bytesRow
  rw [Array.getElem?_append_left (by rw [hs]; exact hj), ← Array.getElem?_toList, hl]
  exact bv_get hj

/-- '[]byte(s)'. -/
theorem conv_bytes (w : World) (xs : List Nat) (hx : ∀ x ∈ xs, x < 256) (hl : xs.length < 68719476736) : ∃ cap w2, (convert 9 53 (.string (nstr xs))).run Try.prog w = .ok (.slice (some ⟨w.heap.size, 0, none⟩) xs.length cap) w2 ∧
    BSl w2 (.slice (some ⟨w.heap.size, 0, none⟩) xs.length cap) xs ∧ Kp (fun _ => False) w w2 ∧ w2.heap.size = w.heap.size + 1 ∧ ∃ cur fr, w2.heap[w.heap.size]? = some (.cells cur 5 fr) := by
  have hr := run_bytes_of_string (P := Try.prog) w 9 53 5 (nstr xs) Try.underlying9 Try.underlying53 Try.underlying5
  rw [nstr_size] at hr
  have hge := grownCap_ge w xs.length 0 5
  refine ⟨_, _, hr, ?_, ⟨rfl, rfl, rfl, by simp, fun k hk _ => Below.heap_alloc w.drew _ k hk⟩, by simp, _, _, heap_alloc_new w.drew _⟩
  refine ⟨⟨_, _, rfl, ⟨hge, fun h => by cases h⟩, .inr ⟨_, 0, rfl, fun j hj => ?_⟩⟩, by omega, hx⟩
  have hn := heap_alloc_new w.drew (.cells (bytesRow (nstr xs) (grownCap w xs.length 0 5)) 5 ((bytesRow (nstr xs) (grownCap w xs.length 0 5)).size, (bytesRow (nstr xs) (grownCap w xs.length 0 5)).size + 1))
  have hn' : (w.drew.alloc (.cells (bytesRow (nstr xs) (grownCap w xs.length 0 5)) 5 ((bytesRow (nstr xs) (grownCap w xs.length 0 5)).size, (bytesRow (nstr xs) (grownCap w xs.length 0 5)).size + 1))).heap[w.heap.size]? = _ := hn
  simp only [World.cell?, hn', Nat.zero_add]
  exact bytesRow_get xs hx _ j hj

/-- 'append(rows, x)', one row, as one step of a region that draws its order. -/
theorem step_append_row {ops : Array Oper} {o : Oper} {a : Act} {w : World} {K : Act → World → Prop} {Q : Exit → Act → World → Prop} {E : Prop} (hgd : o.guard = none) (s x : Operand)
    (ho : o.op = .call { callee := .builtin .append, args := #[s, x], argTypes := #[23, 23] }) (B : Nat) (v : Value) (n : Nat) (ds : List Value) (hs : a.eval s = v) (hown : w.ownsRow B 53 1 v n ds)
    (y : Value) (S : Nat) (hS : w.heap.size = S) (hx : a.eval x = .slice (some ⟨S, 0, none⟩) 1 1) (hone : y.oneCell' = true) (hlen : n < 1099511627776) (hbase : B ≤ w.heap.size)
    (hK : ∀ v' w', w'.ownsRow B 53 1 v' (n + 1) (ds ++ [y]) → (w.alloc (.cells #[y] 53)).grownBy w' v.ownBlock → (v'.ownBlock = v.ownBlock ∨ v'.ownBlock = some (w.heap.size + 1)) → K (a.put o.dst v') w') :
    if Region.wanted o (yielded ops a.tmps) = true then Oper.wp Try.prog o a (w.alloc (.cells #[y] 53)) K Q else E := by
  have hw : Region.wanted o (yielded ops a.tmps) = true := by simp [Region.wanted, hgd]
  rw [if_pos hw]
  subst hS
  obtain ⟨i, hi, hz0, hz1, hz2⟩ := info50_ex
  obtain ⟨v', w', hrun, r1, r2, _, r4⟩ := run_append_own_at (P := Try.prog) (w.alloc (.cells #[y] 53)) B 23 o.type 53 i (.slice none 0 0) 1 24 Try.underlying23 hi hz0 hz1 hz2 rfl (by decide) v n ds (hown.alloc _) ⟨w.heap.size, 0, none⟩ 1 1 [y] rfl (cell_one_new _ _ _) (by intro u hu; simp at hu; subst hu; exact hone) (by unfold maxLen; omega) (by omega) (by simp; omega)
  unfold Oper.wp
  simp [execOp, ho, resolve, invoke, builtin, hs, hx, hrun, Result.andThen]
  exact hK v' w' r1 r2 (by simpa using r4)

/-- What Add leaves, out of its steps' worlds. -/
theorem add_fin {w w4 w5 w6 : World} {base : Nat} {X F G : Nat → Prop} {B L t c : Nat} {vg vw v3 v6 : Value} {ps : List Wait} {ag : Option Addr} {cg cap5 : Nat} {xs : List Nat}
    (hbk : BookAt w base B F t) (hlt : LateOk w base L vg vw ps) (hlf : ∀ k, LFoot L vg vw ps k → G k) (hd : ∀ k, G k → ¬ F k) (hx : ∀ k, F k ∨ G k → base ≤ k ∧ k < w.heap.size ∧ ¬ X k) (hbs : base ≤ w.heap.size)
    (hgo : w.ownsRow base 5 1 (Value.slice ag xs.length cg) xs.length (bv xs)) (hxs : ∀ x ∈ xs, x < 256) (hl : xs.length < 68719476736) (hgx : ∀ k, (Value.slice ag xs.length cg).ownBlock = some k → X k) (hpc : ps.length ≤ c)
    (hk4 : Kp (fun q => q = L ∨ vg.ownBlock = some q) w w4) (hb4 : w4.heap[L]? = some (.cells #[v3, vw] 49 (0, 0))) (hv4 : w4.ownsRow base 53 1 v3 (ps.length + 1) (ps.map (·.got) ++ [Value.slice ag xs.length cg]))
    (hvw4 : w4.ownsRow base 53 1 vw ps.length (ps.map (·.want))) (hgo4 : w4.ownsRow base 5 1 (Value.slice ag xs.length cg) xs.length (bv xs)) (hat3 : v3.ownBlock = vg.ownBlock ∨ v3.ownBlock = some (w.heap.size + 1))
    (hk5 : Kp (fun _ => False) w4 w5) (hbsl5 : BSl w5 (.slice (some ⟨w4.heap.size, 0, none⟩) xs.length cap5) xs) (hsz5 : w5.heap.size = w4.heap.size + 1) (hblk5 : ∃ cur fr, w5.heap[w4.heap.size]? = some (.cells cur 5 fr))
    (ho6 : w6.ownsRow base 53 1 v6 (ps.length + 1) (ps.map (·.want) ++ [.slice (some ⟨w4.heap.size, 0, none⟩) xs.length cap5])) (hg6 : (w5.alloc (.cells #[.slice (some ⟨w4.heap.size, 0, none⟩) xs.length cap5] 53)).grownBy w6 vw.ownBlock)
    (hat6 : v6.ownBlock = vw.ownBlock ∨ v6.ownBlock = some (w5.heap.size + 1)) (hb6 : w6.heap[L]? = some (.cells #[v3, vw] 49 (0, 0))) :
    Hs (w6.setCell ⟨L, 1, none⟩ v6) base (fun k => X k ∧ (Value.slice ag xs.length cg).ownBlock ≠ some k ∧ k < w.heap.size) B L t (c + 1) ∧ Kp (fun k => base ≤ k ∧ ¬ X k) w (w6.setCell ⟨L, 1, none⟩ v6) := by
  have hk56 : Kp (fun q => vw.ownBlock = some q) w5 w6 := ((Kp.refl _ w5).alloc _).grown hg6 (fun q _ hq => hq)
  have hk67 : Kp (fun q => q = L) w6 (w6.setCell ⟨L, 1, none⟩ v6) := (Kp.refl _ _).setCell _ _ (fun _ => rfl)
  have hk57 : Kp (fun q => q = L ∨ vw.ownBlock = some q) w5 (w6.setCell ⟨L, 1, none⟩ v6) := (hk56.mono (fun _ _ h => .inr h)).trans hk67 (fun _ _ h => .inl h)
  have hk47 : Kp (fun q => q = L ∨ vw.ownBlock = some q) w4 (w6.setCell ⟨L, 1, none⟩ v6) := (hk5.mono (fun _ _ h => h.elim)).trans hk57 (fun _ _ h => h)
  have hk07 : Kp (fun q => q = L ∨ vg.ownBlock = some q ∨ vw.ownBlock = some q) w (w6.setCell ⟨L, 1, none⟩ v6) :=
    (hk4.mono (fun q _ h => by rcases h with h | h; exact .inl h; exact .inr (.inl h))).trans hk47 (fun q _ h => by rcases h with h | h; exact .inl h; exact .inr (.inr h))
  have hSG : ∀ q, (q = L ∨ vg.ownBlock = some q ∨ vw.ownBlock = some q) → G q := fun q h => hlf q (by
    rcases h with h | h | h
    · exact .inl h
    · exact .inr (.inl h)
    · exact .inr (.inr (.inl h)))
  have hvwlt : ∀ q, vw.ownBlock = some q → q < w.heap.size := fun q hq => (own_back hlt.hw q hq).2
  have hvglt : ∀ q, vg.ownBlock = some q → q < w.heap.size := fun q hq => (own_back hlt.hg q hq).2
  have hLlt := blk_lt hlt.blk
  have hs4 := hk4.size
  have hs6 : w5.heap.size ≤ (w6.setCell ⟨L, 1, none⟩ v6).heap.size := hk57.size
  have hn5 : ∀ {ee : TypeId} {v : Value} {nn : Nat} {yy : List Value}, w4.ownsRow base ee 1 v nn yy → ee ≠ 49 → ee ≠ 53 → (w6.setCell ⟨L, 1, none⟩ v6).ownsRow base ee 1 v nn yy := fun ho h1 h2 =>
    hk47.owns ho (fun q hq hor => by
      rcases hor with h | h
      · subst h; exact own_not ho hb4 h1 hq
      · exact own_apart ho hvw4 h2 hq h)
  have hv3b : ∀ q, v3.ownBlock = some q → vg.ownBlock = some q ∨ q = w.heap.size + 1 := fun q hq => by
    rcases hat3 with h | h
    · exact .inl (by rw [← h]; exact hq)
    · rw [h] at hq; injection hq with hq; exact .inr hq.symm
  have hv6b : ∀ q, v6.ownBlock = some q → vw.ownBlock = some q ∨ q = w5.heap.size + 1 := fun q hq => by
    rcases hat6 with h | h
    · exact .inl (by rw [← h]; exact hq)
    · rw [h] at hq; injection hq with hq; exact .inr hq.symm
  have hV : ∀ q, q = w4.heap.size → ¬ (q = L ∨ vw.ownBlock = some q) := fun q hq hor => by
    rcases hor with h | h
    · omega
    · have := hvwlt q h; omega
  have hlate : LateOk (w6.setCell ⟨L, 1, none⟩ v6) base L v3 v6 (ps ++ [⟨Value.slice ag xs.length cg, .slice (some ⟨w4.heap.size, 0, none⟩) xs.length cap5, xs⟩]) := by
    refine ⟨blk_set 1 v6 hb6, ?_, ?_, ?_, ?_, ?_, ?_, ?_, ?_, hlt.hbase⟩
    · have := hk47.owns hv4 (fun q hq hor => by
        rcases hor with h | h
        · subst h; exact own_not hv4 hb4 (by decide) hq
        · rcases hv3b q hq with h3 | h3
          · exact hlt.apart q h3 h
          · have := hvwlt q h; omega)
      simpa using this
    · have := hk67.owns ho6 (fun q hq e => own_not ho6 hb6 (by decide) (by rw [hq, e]))
      simpa using this
    · intro q h3 h6
      rcases hv3b q h3 with h3 | h3 <;> rcases hv6b q h6 with h6 | h6
      · exact hlt.apart q h3 h6
      · have := hvglt q h3; omega
      · have := hvwlt q h6; omega
      · omega
    · intro p hp
      rcases List.mem_append.1 hp with hp | hp
      · exact hk07.owns (hlt.got p hp) (fun q hq hor => by
          rcases hor with h | h | h
          · subst h; exact own_not (hlt.got p hp) hlt.blk (by decide) hq
          · exact own_apart (hlt.got p hp) hlt.hg (by decide) hq h
          · exact own_apart (hlt.got p hp) hlt.hw (by decide) hq h)
      · rw [List.mem_singleton.1 hp]; exact hn5 hgo4 (by decide) (by decide)
    · intro p hp
      rcases List.mem_append.1 hp with hp | hp
      · exact hk07.bsl (hlt.want p hp) (fun q hq hor => by
          obtain ⟨_, cur, fr, hc⟩ := hlt.wblk p hp q hq
          rcases hor with h | h | h
          · subst h; rw [hlt.blk] at hc; injection hc with hc; injection hc with _ hc; exact absurd hc (by decide)
          · obtain ⟨cur', hc'⟩ := own_block_type hlt.hg h; rw [hc'] at hc; injection hc with hc; injection hc with _ hc; exact absurd hc (by decide)
          · obtain ⟨cur', hc'⟩ := own_block_type hlt.hw h; rw [hc'] at hc; injection hc with hc; injection hc with _ hc; exact absurd hc (by decide))
      · rw [List.mem_singleton.1 hp]
        exact hk57.bsl hbsl5 (fun q hq => hV q (by simp [Value.ownBlock] at hq; omega))
    · intro p hp q hq
      rcases List.mem_append.1 hp with hp | hp
      · obtain ⟨h1, cur, fr, hc⟩ := hlt.wblk p hp q hq
        refine ⟨h1, cur, fr, (hk07.block q (blk_lt hc) (fun hor => ?_)).trans hc⟩
        rcases hor with h | h | h
        · subst h; rw [hlt.blk] at hc; injection hc with hc; injection hc with _ hc; exact absurd hc (by decide)
        · obtain ⟨cur', hc'⟩ := own_block_type hlt.hg h; rw [hc'] at hc; injection hc with hc; injection hc with _ hc; exact absurd hc (by decide)
        · obtain ⟨cur', hc'⟩ := own_block_type hlt.hw h; rw [hc'] at hc; injection hc with hc; injection hc with _ hc; exact absurd hc (by decide)
      · rw [List.mem_singleton.1 hp] at hq
        simp [Value.ownBlock] at hq
        subst hq
        obtain ⟨cur, fr, hc⟩ := hblk5
        exact ⟨by omega, cur, fr, (hk57.block _ (blk_lt hc) (hV _ rfl)).trans hc⟩
    · intro p hp
      rcases List.mem_append.1 hp with hp | hp
      · exact hlt.byte p hp
      · rw [List.mem_singleton.1 hp]; exact ⟨hxs, hl⟩
    · have hnew : ∀ p ∈ ps, ∀ q, p.got.ownBlock = some q → (Value.slice ag xs.length cg).ownBlock ≠ some q := fun p hp q hq hq' =>
        (hx q (.inr (hlf q (.inr (.inr (.inr (.inl ⟨p, hp, hq⟩))))))).2.2 (hgx q hq')
      intro i j pi pj hi hj hij q hq
      rcases snoc_get hi with ⟨_, hi⟩ | ⟨hi0, hi⟩ <;> rcases snoc_get hj with ⟨_, hj⟩ | ⟨hj0, hj⟩
      · exact hlt.two i j pi pj hi hj hij q hq
      · subst hj; exact hnew pi (List.mem_of_getElem? hi) q hq
      · subst hi; exact fun hq' => hnew pj (List.mem_of_getElem? hj) q hq' hq
      · omega
  refine ⟨⟨F, fun q => G q ∨ (Value.slice ag xs.length cg).ownBlock = some q ∨ (w.heap.size ≤ q ∧ q < (w6.setCell ⟨L, 1, none⟩ v6).heap.size), hbk.kp hk07 (fun q hf hor => hd q (hSG q hor) hf), ⟨v3, v6, _, hlate, fun q hq => ?_, by simp; omega⟩, fun q hq hf => ?_, fun q hor => ?_⟩, hk07.mono (fun q _ hor => ?_)⟩
  · have hlt7 := (lfoot_lt hlate q hq).2
    by_cases hq0 : w.heap.size ≤ q
    · exact .inr (.inr ⟨hq0, hlt7⟩)
    · rcases hq with h | h | h | ⟨p, hp, h⟩ | ⟨p, hp, h⟩
      · exact .inl (hlf q (.inl h))
      · rcases hv3b q h with h | h
        · exact .inl (hlf q (.inr (.inl h)))
        · omega
      · rcases hv6b q h with h | h
        · exact .inl (hlf q (.inr (.inr (.inl h))))
        · omega
      · rcases List.mem_append.1 hp with hp | hp
        · exact .inl (hlf q (.inr (.inr (.inr (.inl ⟨p, hp, h⟩)))))
        · rw [List.mem_singleton.1 hp] at h; exact .inr (.inl h)
      · rcases List.mem_append.1 hp with hp | hp
        · exact .inl (hlf q (.inr (.inr (.inr (.inr ⟨p, hp, h⟩)))))
        · rw [List.mem_singleton.1 hp] at h
          simp [Value.ownBlock] at h
          omega
  · rcases hq with h | h | h
    · exact hd q h hf
    · exact (hx q (.inl hf)).2.2 (hgx q h)
    · have := (hx q (.inl hf)).2.1; omega
  · have hmono := hk07.size
    rcases hor with h | h | h | h
    · have := hx q (.inl h); exact ⟨this.1, by omega, fun hxx => this.2.2 hxx.1⟩
    · have := hx q (.inr h); exact ⟨this.1, by omega, fun hxx => this.2.2 hxx.1⟩
    · have := own_back hgo q h; exact ⟨this.1, by omega, fun hxx => hxx.2.1 h⟩
    · exact ⟨by omega, h.2, fun hxx => by omega⟩
  · have := hx q (.inr (hSG q hor)); exact ⟨this.1, this.2.2⟩

set_option maxRecDepth 1000000 in
set_option maxHeartbeats 400000 in
theorem add_any {w : World} {base : Nat} {X : Nat → Prop} {B L t c : Nat} (h : Hs w base X B L t c) (hbase : base ≤ w.heap.size) (got wv : Value) (xs : List Nat) (hgo : w.ownsRow base 5 1 got xs.length (bv xs)) (hxs : ∀ x ∈ xs, x < 256) (hl : xs.length < 68719476736)
    (hX : ∀ k, got.ownBlock = some k → X k) (hwv : BSl w wv xs) (hwX : ∀ k, wv.ownBlock = some k → X k) (hc : c < 68719476736) :
    Calls Try.prog 10 #[.pointer (some ⟨L, 0, none⟩), got, wv] w fun e w' => e = .returned (.tuple #[]) ∧
      Hid (Hs w' base (fun k => X k ∧ got.ownBlock ≠ some k ∧ k < w.heap.size) B L t (c + 1) ∧ Kp (fun k => base ≤ k ∧ ¬ X k) w w') := by
  obtain ⟨F, G, hbook, ⟨vg, vw, ps, hok, hlf, hpc⟩, hd, hx⟩ := h
  obtain ⟨ag, cg, hgf, hq1, hq2, hq3⟩ := own_form hgo
  have HBK := hide hbook
  have HLT := hide hok
  have HLF := hide hlf
  have HD := hide hd
  have HX := hide hx
  have HBS := hide hbase
  have HGO := hide hgo
  have HXS := hide hxs
  have HL := hide hl
  have HGX := hide hX
  have HWV := hide hwv
  have HWX := hide hwX
  have HLN : Hid (ps.length < 1099511627776 ∧ ps.length ≤ c) := ⟨by omega, hpc⟩
  have c0 : w.cell? ⟨L, 0, none⟩ = some vg := blk_cell hok.blk rfl
  subst hgf
  clear hbook hok hlf hd hx hbase hgo hxs hl hX hwv hwX hc hpc hq1 hq2 hq3
  go_enter Try.func10, Try.ntmps10
  go_wp2_with (at_builtin; refine append_row rfl _ _ rfl base vg ps.length _ rfl HLT.out.hg _ _ rfl rfl rfl HLN.out.1 HBS.out ?_)
  intro v3 w3 ho3 hg3 hat3
  obtain ⟨a3, c3, hv3, hq1, hq2, hq3⟩ := own_form ho3
  have HLG : Hid (vg.ownBlock ≠ some L) := own_not HLT.out.hg HLT.out.blk (by decide)
  have hblk3 : w3.heap[L]? = some (.cells #[vg, vw] 49 (0, 0)) := (hg3.block L (by have := blk_lt HLT.out.blk; simp; omega) (fun e => HLG.out e.symm)).trans (blk_alloc _ HLT.out.blk)
  have hkg : Kp (fun q => vg.ownBlock = some q) w w3 := ((Kp.refl _ w).alloc _).grown hg3 (fun q _ hq => hq)
  have c0' : w3.cell? ⟨L, 0, none⟩ = some vg := blk_cell hblk3 rfl
  have c1' : w3.cell? ⟨L, 1, none⟩ = some vw := blk_cell hblk3 rfl
  have f0' := blk_frozen 0 hblk3
  have hkall : Kp (fun q => q = L ∨ vg.ownBlock = some q) w (w3.setCell ⟨L, 0, none⟩ v3) := (hkg.mono (fun _ _ h => .inr h)).setCell _ _ (fun _ => .inl rfl)
  have hXG : ∀ q, X q → ¬ (q = L ∨ vg.ownBlock = some q) := fun q hxq hor => by
    rcases hor with h | h
    · subst h; exact (HX.out q (.inr (HLF.out q (.inl rfl)))).2.2 hxq
    · exact (HX.out q (.inr (HLF.out q (.inr (.inl h))))).2.2 hxq
  have HK4 := hide hkall
  have HB4 : Hid ((w3.setCell ⟨L, 0, none⟩ v3).heap[L]? = some (.cells #[v3, vw] 49 (0, 0))) := blk_set 0 v3 hblk3
  have HV4 : Hid ((w3.setCell ⟨L, 0, none⟩ v3).ownsRow base 53 1 v3 (ps.length + 1) (ps.map (·.got) ++ [Value.slice ag xs.length cg])) :=
    ((Kp.refl (fun q => q = L) w3).setCell ⟨L, 0, none⟩ v3 (fun _ => rfl)).owns ho3 (fun q hq e => own_not ho3 hblk3 (by decide) (by rw [hq, e]))
  have HVW4 : Hid ((w3.setCell ⟨L, 0, none⟩ v3).ownsRow base 53 1 vw ps.length (ps.map (·.want))) := hkall.owns HLT.out.hw (fun q hq hor => by
    rcases hor with h | h
    · subst h; exact own_not HLT.out.hw HLT.out.blk (by decide) hq
    · exact HLT.out.apart q h hq)
  have HWV4 : Hid (BSl (w3.setCell ⟨L, 0, none⟩ v3) wv xs) := hkall.bsl HWV.out (fun q hq => hXG q (HWX.out q hq))
  have HGO4 : Hid ((w3.setCell ⟨L, 0, none⟩ v3).ownsRow base 5 1 (Value.slice ag xs.length cg) xs.length (bv xs)) := hkall.owns HGO.out (fun q hq => hXG q (HGX.out q hq))
  have HAT3 : Hid (v3.ownBlock = vg.ownBlock ∨ v3.ownBlock = some (w.heap.size + 1)) := hat3
  have HBS4 : Hid (base ≤ (w3.setCell ⟨L, 0, none⟩ v3).heap.size) := Nat.le_trans HBS.out hkall.size
  have HXG := hide hXG
  subst hv3
  clear ho3 hg3 hat3 hq1 hq2 hq3 hblk3 hkg hkall hXG c0
  go_wp2
  clear c0' c1' f0'
  generalize w3.setCell ⟨L, 0, none⟩ (Value.slice a3 (ps.length + 1) c3) = w4 at *
  obtain ⟨cap5, w5, hconv, hbsl5, hk5, hsz5, hblk5⟩ := conv_bytes w4.drew xs HXS.out HL.out
  have hk5' : Kp (fun _ => False) w4 w5 := (Kp.refl _ w4).drew.trans hk5 (fun _ _ h => h)
  have hcv : Sem.run Try.prog (convert 53 9 wv) w4.drew = .ok (.string (nstr xs)) w4.drew := (HWV4.out.move (w' := w4.drew) (fun _ _ h => h)).text
  have hL4 : L < w4.heap.size := blk_lt HB4.out
  have hB5 : w5.heap[L]? = some (.cells #[Value.slice a3 (ps.length + 1) c3, vw] 49 (0, 0)) := (hk5'.block L hL4 (fun h => h)).trans HB4.out
  have c14 : w4.cell? ⟨L, 1, none⟩ = some vw := blk_cell HB4.out rfl
  have c15 : w5.cell? ⟨L, 1, none⟩ = some vw := blk_cell hB5 rfl
  have hL5 : L < w5.heap.size := blk_lt hB5
  have HB5 := hide hB5
  have HBSL5 := hide hbsl5
  have HK5 := hide hk5'
  have HSZ5 : Hid (w5.heap.size = w4.heap.size + 1) := hsz5
  have HBLK5 : Hid (∃ cur fr, w5.heap[w4.heap.size]? = some (.cells cur 5 fr)) := hblk5
  have HVW5 := hide (hk5'.owns HVW4.out (fun _ _ h => h))
  have HBS5 : Hid (base ≤ w5.heap.size) := Nat.le_trans HBS4.out hk5'.size
  clear hbsl5 hk5 hk5' hsz5 hblk5 hB5
  generalize nstr xs = S at *
  go_region_law (first
    | (refine step_append_row rfl (.tmp 20) (.tmp 24) rfl base vw ps.length _ rfl HVW5.out _ _ rfl rfl rfl HLN.out.1 HBS5.out ?_
       intro v6 w6 ho6 hg6 hat6
       obtain ⟨a6, c6, hv6, hq1, hq2, hq3⟩ := own_form ho6
       have hblk6 : w6.heap[L]? = some (.cells #[Value.slice a3 (ps.length + 1) c3, vw] 49 (0, 0)) := (hg6.block L (by simp; omega) (fun e => own_not HVW5.out HB5.out (by decide) e.symm)).trans (blk_alloc _ HB5.out)
       have c16 : w6.cell? ⟨L, 1, none⟩ = some vw := blk_cell hblk6 rfl
       have f16 := blk_frozen 1 hblk6
       have HO6 := hide ho6
       have HG6 := hide hg6
       have HA6 := hide hat6
       have HB6 := hide hblk6
       subst hv6
       clear hq1 hq2 hq3 ho6 hg6 hat6 hblk6))
  all_goals
    go_wp2
    go_end0
    exact ⟨rfl, add_fin HBK.out HLT.out HLF.out HD.out HX.out HBS.out HGO.out HXS.out HL.out HGX.out HLN.out.2 HK4.out HB4.out HV4.out HVW4.out HGO4.out HAT3.out HK5.out HBSL5.out HSZ5.out HBLK5.out HO6.out HG6.out HA6.out HB6.out⟩
end Go.Proofs.Ytfjdpooaipehmaa
