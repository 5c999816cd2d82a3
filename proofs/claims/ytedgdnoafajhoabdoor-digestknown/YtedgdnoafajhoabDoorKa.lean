import Derived.Test.YtedgdnoafajhoabDoorKn
import Derived.Test.YtedgdnoafajhoabDoorWa
import Derived.Test.YtedgdnoafajhoabDoorQh
import Derived.Test.YtedgdnoafajhoabDoorLd
import Derived.Maps.AppendAt
import Derived.Great.BuildSlice
namespace Go.Proofs.YtedgdnoafajhoabDoor
open Go.RowKit Go

/-- What DigestKnown has in hand. -/
structure Kw (w wx : World) : Prop where
  c : Cb wx
  l : Below w.heap.size w wx
theorem Kw.below {w wx wy : World} (h : Kw w wx) (hb : Below wx.heap.size wx wy) : Kw w wy := ⟨h.c.below hb, h.l.trans (hb.mono h.l.size)⟩
theorem info22_ex : ∃ i, Tryd.prog.info? 22 = some i ∧ i.zero = some (.agg (bv (List.replicate 32 0)).toArray) ∧ i.size = 32 ∧ i.bytes = 32 := by
  have h : (Tryd.prog.info? 22).map (fun i => (i.zero, i.size, i.bytes)) = some (some (.agg (bv (List.replicate 32 0)).toArray), 32, 32) := by kernel_rfl
  cases hi : Tryd.prog.info? 22 with
  | none => rw [hi] at h; cases h
  | some i =>
    rw [hi] at h
    injection h with h
    injection h with h1 h2
    injection h2 with h2 h3
    exact ⟨i, rfl, h1, h2, h3⟩
/-- How n stands at the loop's head. -/
def headAt (t : Nat) : Nat := if t ≤ 13 then 54 + t else 105 + t
/-- The sums that were seen. -/
def seenl (t : Nat) : List Value := (List.range t).flatMap fun s => bv (sha (aas (lenAt s)))
theorem seenl_succ (t : Nat) : seenl (t + 1) = seenl t ++ bv (sha (aas (lenAt t))) := by simp [seenl, List.range_succ, List.flatMap_append]
theorem seenl_len (t : Nat) : (seenl t).length = t * 32 := by
  induction t with
  | zero => rfl
  | succ t ih => rw [seenl_succ, List.length_append, ih, bv_len, sha_len]; omega
theorem seenl_get (t : Nat) : ∀ k j, k < t → j < 32 → (seenl t)[k * 32 + j]? = (bv (sha (aas (lenAt k))))[j]? := by
  induction t with
  | zero => intro k j hk; omega
  | succ t ih =>
    intro k j hk hj
    rw [seenl_succ]
    by_cases h : k = t
    · subst h
      rw [List.getElem?_append_right (by rw [seenl_len]; omega), seenl_len]
      congr 1
      omega
    · rw [List.getElem?_append_left (by rw [seenl_len]; omega)]
      exact ih k j (by omega) hj
/-- One sum out of the row. -/
theorem seen_range {w : World} {B g c t : Nat} (h : w.ownsRow B 22 32 (.slice (some ⟨g, 0, none⟩) t c) t (seenl t)) (k : Nat) (hk : k < t) : w.rangeAt g (k * 32) (bv (sha (aas (lenAt k)))) := by
  intro j v hv
  have hj : j < 32 := by
    have := (List.getElem?_eq_some_iff.1 hv).1
    rw [bv_len, sha_len] at this
    exact this
  have h2 := h.cells (g := g) rfl (k * 32 + j) v (by rw [seenl_get t k j hk hj]; exact hv)
  have hadd : (⟨g, 0, none⟩ : Addr).add (k * 32 + j) = ⟨g, k * 32 + j, none⟩ := by unfold Addr.add; split <;> simp_all
  rw [hadd] at h2
  exact h2
/-- A whole sum is read, wherever it lies. -/
theorem loadAt_run (wy : World) {d off n : Nat} {cs : List Value} {T e : TypeId} (h : wy.rangeAt d off cs) {o : Oper} {a : Act} {p : Operand} (ho : o.op = .load T p) (hp : a.eval p = .pointer (some ⟨d, off, none⟩)) (hi : (Tryd.prog.info? T).map (·.size) = some cs.length) (hu : Tryd.prog.underlying T = some (.array n e)) : (execOp a.eval o).run Tryd.prog wy = .ok (.value (.agg cs.toArray)) wy := by
  have hr := part_load (w := wy) d off cs hu hi h
  unfold execOp
  simp only [ho, Sem.run_bind, hp, hr, Result.andThen_ok]
  rfl
theorem sum_none (w : World) (hcb : Cb w) : Calls Tryd.prog 4 #[.slice none 0 0] w fun e w' => e = .returned (.agg (bv noned).toArray) ∧ Below w.heap.size w w' := by
  have h := sum_any w (.slice none 0 0) [] hcb ⟨⟨none, 0, rfl, ⟨Nat.le_refl _, fun _ => rfl⟩, .inl rfl⟩, by simp, by simp⟩ (by simp)
  rwa [sha_none] at h
theorem sum_longs (w : World) (v : Value) (hcb : Cb w) (hb : BSl w v longs) : Calls Tryd.prog 4 #[v] w fun e w' => e = .returned (.agg (bv longd).toArray) ∧ Below w.heap.size w w' := by
  have h := sum_any w v longs hcb hb (by decide)
  rwa [sha_long] at h
theorem headAt_lt {t : Nat} (h : t ≤ 26) : headAt t < 131 ↔ t < 26 := by unfold headAt; split <;> omega
theorem headAt_67 {t : Nat} : headAt t = 67 ↔ t = 13 := by unfold headAt; split <;> omega
theorem headAt_len {t : Nat} (h : ¬ t = 13) : headAt t = lenAt t := by unfold headAt lenAt; split <;> split <;> omega
theorem headAt_le (t : Nat) : headAt t ≤ lenAt t := by unfold headAt lenAt; split <;> split <;> omega
theorem headAt_next (t : Nat) : lenAt t + 1 = headAt (t + 1) := by unfold headAt lenAt; split <;> split <;> omega

theorem wpList_buildD (d : Nat) {T : TypeId} {A : Array Value} {parts : Array (Nat × Operand)} {ops : Array Oper} {rest : List Oper} {o : Oper} {a : Act} {Q : Exit → Act → World → Prop} {w : World} (_ : o.dst = some d) (hgd : o.guard = none) (ho : o.op = .build T parts)
    (hb : Tryd.prog.built T (evs a parts).toList = some A) (h : wpList Tryd.prog ops Q rest (a.put o.dst (.agg A)) w) : wpList Tryd.prog ops Q (o :: rest) a w := wpList_buildW hgd ho hb h

theorem fill_one (A : Array Value) (hA : A.size = 32) (cells : Array Value) (hc : cells.size = 32) : Instr.fill (fun i => some (i * 32, 32)) cells [(0, .agg A)] = some A := by
  obtain ⟨r, hr, hsz, hk⟩ := Great.fill_dense (s := 32) (by decide) [.agg A] 0 cells (by simp [Value.cells, hA]) (by simp [hc])
  have e : r = A := by
    apply Array.ext_getElem?
    intro k
    rw [hk k]
    by_cases h : k < 32
    · rw [if_pos ⟨by omega, by simp; omega⟩]
      have h1 : k / 32 - 0 = 0 := by omega
      have h2 : k % 32 = k := by omega
      rw [h1, h2]
      rfl
    · rw [if_neg (by simp; omega), Array.getElem?_eq_none (by omega), Array.getElem?_eq_none (by omega)]
  rw [e] at hr
  exact hr
theorem wpList_one32 {ops : Array Oper} {rest : List Oper} {o : Oper} {a : Act} {w : World} {Q : Exit → Act → World → Prop} (hg : o.guard = none) (x : Operand) (ho : o.op = .buildSlice 26 1 #[(0, x)]) (A : Array Value) (hA : A.size = 32) (hx : a.eval x = .agg A)
    (h : wpList Tryd.prog ops Q rest (a.put o.dst (.slice (some ⟨w.heap.size, 0, none⟩) 1 1)) (w.alloc (.cells A 22))) : wpList Tryd.prog ops Q (o :: rest) a w := by
  obtain ⟨i, hi, hz, hs, _⟩ := info22_ex
  refine wpList_buildSlice hg 26 22 1 _ ho A i _ Tryd.underlying26 hi hz (by rw [hs]; decide) (by rw [hs]; decide) ?_ h
  rw [hs]
  simp only [List.map_toArray, List.map_cons, List.map_nil, hx]
  exact fill_one A hA _ (by simp)
/-- append of one sum. -/
theorem append_sum {ops : Array Oper} {rest : List Oper} {o : Oper} {a : Act} {Q : Exit → Act → World → Prop} {w : World} (hgd : o.guard = none) (s x : Operand)
    (ho : o.op = .call { callee := .builtin .append, args := #[s, x], argTypes := #[26, 26] }) (B : Nat) (v : Value) (n : Nat) (ds : List Value) (hs : a.eval s = v) (hown : w.ownsRow B 22 32 v n ds)
    (g : Nat) (D : List Nat) (hx : a.eval x = .slice (some ⟨g, 0, none⟩) 1 1) (hD : D.length = 32) (hg : w.heap[g]? = some (.cells (bv D).toArray 22 (0, 0))) (hlen : n < 1099511627776) (hbase : B ≤ w.heap.size)
    (h : ∀ v' w', w'.ownsRow B 22 32 v' (n + 1) (ds ++ bv D) → w.grownBy w' v.ownBlock → wpList Tryd.prog ops Q rest (a.put o.dst v') w') : wpList Tryd.prog ops Q (o :: rest) a w := by
  obtain ⟨i, hi, hz0, hz1, hz2⟩ := info22_ex
  refine wpList_append_own_at w hgd s x 26 ho B 22 i _ 32 32 Tryd.underlying26 hi hz0 hz1 hz2 (by simp [Value.cells, bv_len]) (by decide) v n ds hs hown ⟨g, 0, none⟩ 1 1 (bv D) hx (by rw [bv_len, hD]) (fun j u hu => ?_) (bv_one D) (by unfold maxLen; omega) (by omega) hbase fun v' w' h1 h2 _ _ => h v' w' h1 h2
  have hadd : (⟨g, 0, none⟩ : Addr).add j = ⟨g, j, none⟩ := by unfold Addr.add; split <;> simp_all
  rw [hadd]
  exact blk_cell hg (by rw [List.getElem?_toArray]; exact hu)
/-- What the round has in hand: the sums seen, the hash, the letters. -/
structure Kst (w wx : World) (g : Nat) (sv : Value) (t m : Nat) (av : Value) (k : Nat) : Prop where
  c : Cb wx
  l : Below w.heap.size w wx
  s : wx.ownsRow w.heap.size 22 32 sv t (seenl t)
  h : HS wx g (aas m)
  a : wx.ownsRow w.heap.size 5 1 av (aas k).length (bv (aas k))
  g0 : w.heap.size ≤ g
  p0 : 0 < w.heap.size
theorem Kst.below {w wx wy : World} {g : Nat} {sv : Value} {t m : Nat} {av : Value} {k : Nat} (h : Kst w wx g sv t m av k) (hb : Below wx.heap.size wx wy) : Kst w wy g sv t m av k :=
  ⟨h.c.below hb, h.l.trans (hb.mono h.l.size), own_below h.s hb (rfl : 0 = 0), h.h.below hb, own_below h.a hb (rfl : 0 = 0), h.g0, h.p0⟩
theorem Kst.write {w wx wy : World} {g : Nat} {sv : Value} {t m m' : Nat} {av : Value} {k : Nat} (h : Kst w wx g sv t m av k) (hk : Kp (fun q => q = g) wx wy) (hh : HS wy g (aas m')) : Kst w wy g sv t m' av k := by
  have g0 := h.g0
  have p0 := h.p0
  exact ⟨h.c.kp hk (fun e => by omega), h.l.trans (hk.below h.l.size (fun q e => by omega)), hk.owns h.s (fun q hq e => own_not h.s h.h.b (by decide) (by rw [← e]; exact hq)), hh, hk.owns h.a (fun q hq e => own_not h.a h.h.b (by decide) (by rw [← e]; exact hq)), g0, p0⟩
theorem Kst.app {w wx wy : World} {g : Nat} {sv : Value} {t m : Nat} {av av' : Value} {k k' : Nat} (h : Kst w wx g sv t m av k) (hg : wx.grownBy wy av.ownBlock) (ho : wy.ownsRow w.heap.size 5 1 av' (aas k').length (bv (aas k'))) : Kst w wy g sv t m av' k' := by
  have hk : Kp (fun q => av.ownBlock = some q) wx wy := (Kp.refl _ _).grown hg (fun k _ h => h)
  have lo : ∀ q, av.ownBlock = some q → w.heap.size ≤ q := fun q hq => (h.a.lt q hq).1
  have p0 := h.p0
  exact ⟨h.c.kp hk (fun e => by have := lo 0 e; omega), h.l.trans (hk.below h.l.size lo), hk.owns h.s (fun q hq e => own_apart h.s h.a (by decide) hq e), h.h.kp hk (fun e => own_not h.a h.h.b (by decide) e), ho, h.g0, p0⟩
theorem own_form32 {w : World} {B : Nat} {e : TypeId} {v : Value} {n : Nat} {xs : List Value} (h : w.ownsRow B e 32 v n xs) : ∃ a cap, v = .slice a n cap ∧ (0 < n → ∃ g, a = some ⟨g, 0, none⟩) := by
  rcases h.2 with ⟨rfl, h0⟩ | ⟨g, cap, cur, rfl, _⟩
  · exact ⟨none, 0, by rw [h0], fun hp => by omega⟩
  · exact ⟨_, cap, rfl, fun _ => ⟨g, rfl⟩⟩
theorem heldStartK {P : Program} {Q : Exit → Act → World → Prop} {S : World → Prop} {l : List Oper} {a : Act} {w : World} {id : Nat} (n : Nat) (hn : l.length = n) (hm : P.follows .mixedOrders = true) (h : wpAnyH P .any l.toArray Q S n (Array.replicate n false) a w.drew) : (Code.region id l.toArray true).wp P Q a w := by
  subst hn
  exact heldStart hm h

set_option maxRecDepth 1000000 in
set_option maxHeartbeats 4000000 in
theorem known_any (w : World) (hcb : Cb w) : Calls Tryd.prog 3 #[] w fun e w' => e = .returned (.bool true) ∧ Below w.heap.size w w' := by
  have HCB := hide hcb
  clear hcb
  go_enter Tryd.func3, Tryd.ntmps3
  have HA1 : Hid ((w.alloc (.cells (bv noned).toArray 22)).heap[w.heap.size]? = some (.cells (bv noned).toArray 22 (0, 0))) := heap_alloc_new w _
  have HB1 := hide (below_alloc w (.cells (bv noned).toArray 22))
  go_wp2_with (first
    | (refine wpList_buildD 10 (A := (bv noned).toArray) rfl rfl rfl (by kernel_rfl) ?_)
    | (refine wpList_buildD 11 (A := (bv longd).toArray) rfl rfl rfl (by kernel_rfl) ?_)
    | (refine wpList_storeRow rfl rfl w.heap.size _ (bv noned).toArray 22 rfl rfl (heap_alloc_new w _) info32 (by rfl) (by kernel_rfl) ?_; rw [World.setRow_alloc_new]; generalize w.alloc (.cells (bv noned).toArray 22) = w1 at *; generalize hp1 : w.heap.size = p1 at *; have HP1 := hide hp1; clear hp1)
    | (refine wpList_storeRow rfl rfl w1.heap.size _ (bv longd).toArray 22 rfl rfl (heap_alloc_new w1 _) info32 (by rfl) (by kernel_rfl) ?_; rw [World.setRow_alloc_new]; have HA2 : Hid ((w1.alloc (.cells (bv longd).toArray 22)).heap[w1.heap.size]? = some (.cells (bv longd).toArray 22 (0, 0))) := heap_alloc_new w1 _; have HB2 := hide (below_alloc w1 (.cells (bv longd).toArray 22)); generalize w1.alloc (.cells (bv longd).toArray 22) = w2 at *))
  have HW2 : Hid (Kw w w2) := by
    have hp := HP1.out
    subst hp
    have hb : Below w.heap.size w w2 := HB1.out.trans (HB2.out.mono HB1.out.size)
    exact ⟨HCB.out.below hb, hb⟩
  have HA12 : Hid (w2.heap[p1]? = some (.cells (bv noned).toArray 22 (0, 0))) := (HB2.out.block p1 (blk_lt HA1.out)).trans HA1.out
  clear HB1 HB2 HA1
  generalize w1.heap.size = p2 at *
  have HTA : Hid (∀ wx, Below w2.heap.size w2 wx → wx.rangeAt p1 0 (bv noned)) := fun wx hb => cells_of ((hb.block p1 (blk_lt HA12.out)).trans HA12.out)
  have HTB : Hid (∀ wx, Below w2.heap.size w2 wx → wx.rangeAt p2 0 (bv longd)) := fun wx hb => cells_of ((hb.block p2 (blk_lt HA2.out)).trans HA2.out)
  clear HA12 HA2
  simp only [Act.put]
  refine heldStartK (S := fun w' => Below w2.heap.size w2 w') 17 rfl (by kernel_rfl) ?_
  have hS : Below w2.heap.size w2 w2.drew := (Below.refl _ _).drew
  refine heldTake 1 _ rfl (by kernel_rfl) (by kernel_rfl) (by kernel_rfl) (fun _ _ _ h => h) rfl hS (fun wy hy => loadA_run wy (HTA.out _ hy) rfl rfl info32 Tryd.underlying22) ?_
  (try simp only [Act.put]); (try simp only [List.setIfInBounds_toArray, List.set_cons_zero, List.set_cons_succ])
  refine heldStep 0 rfl (by kernel_rfl) (fun K hK => ?_)
  go_simp
  refine (sum_none _ (HW2.out.c.below hS)).mono ?_
  rintro e wn ⟨rfl, hbn⟩
  refine (Hid.out hK) _ _ (hS.trans (hbn.mono hS.size)) (fun hS2 => ?_)
  clear hK K hS
  have hS := hS2
  clear hS2
  (try simp only [Act.put]); (try simp only [List.setIfInBounds_toArray, List.set_cons_zero, List.set_cons_succ])
  clear hbn
  refine heldTake 2 _ rfl (by kernel_rfl) (by kernel_rfl) (by kernel_rfl) (fun _ _ _ h => h) rfl hS (fun wy hy => by have he := eqin32 wy noned noned rfl rfl; go_simp; rfl) ?_
  (try simp only [Act.put]); (try simp only [List.setIfInBounds_toArray, List.set_cons_zero, List.set_cons_succ])
  refine heldTake 3 _ rfl (by kernel_rfl) (by kernel_rfl) (by kernel_rfl) (fun _ _ _ h => h) rfl hS (fun wy hy => by first | (go_simp; done) | (go_simp; rfl) | rfl) ?_
  (try simp only [Act.put]); (try simp only [List.setIfInBounds_toArray, List.set_cons_zero, List.set_cons_succ])
  refine heldStep 4 rfl (by kernel_rfl) (fun K hK => ?_)
  go_simp
  refine (Hid.out hK) _ _ (hS.trans ((below_alloc _ _).mono hS.size)) (fun hS2 => ?_)
  clear hK K hS2
  (try simp only [Act.put]); (try simp only [List.setIfInBounds_toArray, List.set_cons_zero, List.set_cons_succ])
  have cv := lit_conv wn #[.int .u8 97, .int .u8 98, .int .u8 99] 3 rfl
  refine heldStep 5 rfl (by kernel_rfl) (fun K hK => ?_)
  go_simp
  refine (Hid.out hK) _ _ (hS.trans ((below_alloc _ _).mono hS.size)) (fun hS2 => ?_)
  clear hK K hS cv
  have hS := hS2
  clear hS2
  (try simp only [Act.put]); (try simp only [List.setIfInBounds_toArray, List.set_cons_zero, List.set_cons_succ])
  refine heldStep 6 rfl (by kernel_rfl) (fun K hK => ?_)
  go_simp
  refine (sum_abc _ _ (HW2.out.c.below hS) (lit_bsl wn _ _ 3 _ rfl rfl (by simp) (by omega))).mono ?_
  rintro e wm ⟨rfl, hbn⟩
  refine (Hid.out hK) _ _ (hS.trans (hbn.mono hS.size)) (fun hS2 => ?_)
  clear hK K hS
  have hS := hS2
  clear hS2
  (try simp only [Act.put]); (try simp only [List.setIfInBounds_toArray, List.set_cons_zero, List.set_cons_succ])
  clear hbn
  refine heldStep 7 rfl (by kernel_rfl) (fun K hK => ?_)
  go_simp
  refine (abc_any _).mono ?_
  rintro e wn ⟨rfl, hbn⟩
  refine (Hid.out hK) _ _ (hS.trans (hbn.mono hS.size)) (fun hS2 => ?_)
  clear hK K hS
  have hS := hS2
  clear hS2
  (try simp only [Act.put]); (try simp only [List.setIfInBounds_toArray, List.set_cons_zero, List.set_cons_succ])
  clear hbn
  refine heldTake 8 _ rfl (by kernel_rfl) (by kernel_rfl) (by kernel_rfl) (fun _ _ _ h => h) rfl hS (fun wy hy => by have he := eqin32 wy abcd abcd rfl rfl; go_simp; rfl) ?_
  (try simp only [Act.put]); (try simp only [List.setIfInBounds_toArray, List.set_cons_zero, List.set_cons_succ])
  refine heldTake 9 _ rfl (by kernel_rfl) (by kernel_rfl) (by kernel_rfl) (fun _ _ _ h => h) rfl hS (fun wy hy => by first | (go_simp; done) | (go_simp; rfl) | rfl) ?_
  (try simp only [Act.put]); (try simp only [List.setIfInBounds_toArray, List.set_cons_zero, List.set_cons_succ])
  refine heldTake 10 _ rfl (by kernel_rfl) (by kernel_rfl) (by kernel_rfl) (fun _ _ _ h => h) rfl hS (fun wy hy => by first | (go_simp; done) | (go_simp; rfl) | rfl) ?_
  (try simp only [Act.put]); (try simp only [List.setIfInBounds_toArray, List.set_cons_zero, List.set_cons_succ])
  refine heldTake 14 _ rfl (by kernel_rfl) (by kernel_rfl) (by kernel_rfl) (fun _ _ _ h => h) rfl hS (fun wy hy => loadA_run wy (HTB.out _ hy) rfl rfl info32 Tryd.underlying22) ?_
  (try simp only [Act.put]); (try simp only [List.setIfInBounds_toArray, List.set_cons_zero, List.set_cons_succ])
  refine heldStep 11 rfl (by kernel_rfl) (fun K hK => ?_)
  go_simp
  refine (Hid.out hK) _ _ (hS.trans ((below_alloc _ _).mono hS.size)) (fun hS3 => ?_)
  clear hK K hS3
  (try simp only [Act.put]); (try simp only [List.setIfInBounds_toArray, List.set_cons_zero, List.set_cons_succ])
  have cv := lit_conv wn #[.int .u8 97, .int .u8 98, .int .u8 99, .int .u8 100, .int .u8 98, .int .u8 99, .int .u8 100, .int .u8 101, .int .u8 99, .int .u8 100, .int .u8 101, .int .u8 102, .int .u8 100, .int .u8 101, .int .u8 102, .int .u8 103, .int .u8 101, .int .u8 102, .int .u8 103, .int .u8 104, .int .u8 102, .int .u8 103, .int .u8 104, .int .u8 105, .int .u8 103, .int .u8 104, .int .u8 105, .int .u8 106, .int .u8 104, .int .u8 105, .int .u8 106, .int .u8 107, .int .u8 105, .int .u8 106, .int .u8 107, .int .u8 108, .int .u8 106, .int .u8 107, .int .u8 108, .int .u8 109, .int .u8 107, .int .u8 108, .int .u8 109, .int .u8 110, .int .u8 108, .int .u8 109, .int .u8 110, .int .u8 111, .int .u8 109, .int .u8 110, .int .u8 111, .int .u8 112, .int .u8 110, .int .u8 111, .int .u8 112, .int .u8 113] 56 rfl
  refine heldStep 12 rfl (by kernel_rfl) (fun K hK => ?_)
  go_simp
  refine (Hid.out hK) _ _ (hS.trans ((below_alloc _ _).mono hS.size)) (fun hS3 => ?_)
  clear hK K hS cv
  have hS := hS3
  clear hS3
  (try simp only [Act.put]); (try simp only [List.setIfInBounds_toArray, List.set_cons_zero, List.set_cons_succ])
  refine heldStep 13 rfl (by kernel_rfl) (fun K hK => ?_)
  go_simp
  refine (sum_longs _ _ (HW2.out.c.below hS) (lit_bsl wn _ _ 56 longs rfl rfl (by decide) (by omega))).mono ?_
  rintro e wm ⟨rfl, hbn⟩
  refine (Hid.out hK) _ _ (hS.trans (hbn.mono hS.size)) (fun hS2 => ?_)
  clear hK K hS
  have hS := hS2
  clear hS2
  (try simp only [Act.put]); (try simp only [List.setIfInBounds_toArray, List.set_cons_zero, List.set_cons_succ])
  clear hbn
  refine heldTake 15 _ rfl (by kernel_rfl) (by kernel_rfl) (by kernel_rfl) (fun _ _ _ h => h) rfl hS (fun wy hy => by have he := eqin32 wy longd longd rfl rfl; go_simp; rfl) ?_
  (try simp only [Act.put]); (try simp only [List.setIfInBounds_toArray, List.set_cons_zero, List.set_cons_succ])
  refine heldTake 16 _ rfl (by kernel_rfl) (by kernel_rfl) (by kernel_rfl) (fun _ _ _ h => h) rfl hS (fun wy hy => by first | (go_simp; done) | (go_simp; rfl) | rfl) ?_
  (try simp only [Act.put]); (try simp only [List.setIfInBounds_toArray, List.set_cons_zero, List.set_cons_succ])
  refine heldDone (by kernel_rfl) ?_
  have HW3 := hide (HW2.out.below hS)
  clear hS HTA HTB HW2
  go_wp2_with fail
  clear HP1
  have HP0 := hide HCB.out.pos
  go_loopw [3, 4] (fun sv nn wx => ∃ t : Nat, t ≤ 26 ∧ nn = .int .i64 (headAt t : Nat) ∧ Hid (Kw w wx ∧ wx.ownsRow w.heap.size 22 32 sv t (seenl t))) (fun _ nn _ => 131 - (intOf nn).toNat)
  case atStart => exact ⟨0, by omega, rfl, HW3.out, rfl, .inl ⟨rfl, rfl⟩⟩
  case round =>
    obtain ⟨t, ht, rfl, HS⟩ := hrel
    clear HW3
    by_cases ht26 : t < 26
    · have g1 : ((headAt t : Nat) : Int) < 131 := by have := (headAt_lt ht).2 ht26; omega
      have HNX := hide (headAt_next t)
      go_upto_if 34 with fail
      go_cut [4] (fun nn wx => nn = .int .i64 (lenAt t : Nat) ∧ Hid (Kw w wx ∧ wx.ownsRow w.heap.size 22 32 u3 t (seenl t)))
      case first =>
        by_cases h13 : t = 13
        · have g2 : (((headAt t : Nat) : Int) == 67) = true := beq_iff_eq.2 (by have := headAt_67.2 h13; omega)
          go_wp2_with fail
          go_meet
          case rel => exact ⟨by subst h13; rfl, HS⟩
        · have g2 : (((headAt t : Nat) : Int) == 67) = false := beq_eq_false_iff_ne.2 (by intro e; exact h13 (headAt_67.1 (by omega)))
          have h2 := headAt_len h13
          go_wp2_with fail
          go_meet
          case rel => exact ⟨by rw [h2], HS⟩
      case rest =>
        obtain ⟨rfl, HS2⟩ := hcut
        clear HS g1
        have hN131 : lenAt t ≤ 131 := by unfold lenAt; split <;> omega
        have HN131 := hide hN131
        have HLT : Hid (lenAt t = lenAt t) := rfl
        generalize hN : lenAt t = N at HNX hN131 HN131 HLT ⊢
        have HN := hide hN
        clear hN HLT
        go_wp2_with fail
        refine (new_any wc).mono ?_
        rintro e w3 ⟨g, rfl, hg, hh3, hb3⟩
        have HK3 : Hid (Kst w w3 g u3 t 0 (.slice none 0 0) 0) := by
          have h := HS2.out
          exact ⟨h.1.c.below hb3, h.1.l.trans (hb3.mono h.1.l.size), own_below h.2 hb3 (rfl : 0 = 0), hh3, ⟨rfl, .inl ⟨rfl, rfl⟩⟩, Nat.le_trans h.1.l.size hg, HP0.out⟩
        clear hg hh3 hb3 HS2
        go_wp2_with fail
        go_loopw [6, 7] (fun av kk wx => ∃ k : Nat, k ≤ N ∧ kk = .int .i64 (k : Nat) ∧ Hid (Kst w wx g u3 t k av k)) (fun _ kk _ => N - (intOf kk).toNat)
        case atStart => exact ⟨0, by omega, rfl, HK3⟩
        case round =>
          obtain ⟨k, hk, rfl, HK⟩ := hrel
          clear HK3
          by_cases hkN : k < N
          · have g2 : (k : Int) < (N : Int) := by omega
            go_wp2_with fail
            have HL4 := hide (lit_bsl wr #[.int .u8 97] (0, 0) 1 [97] rfl rfl (by simp) (by omega))
            have HK4 := hide (HK.out.below (below_alloc wr (.cells #[.int .u8 97] 5)))
            have HN4 : Hid (g ≠ wr.heap.size) := by have := blk_lt HK.out.h.b; show _ ≠ _; omega
            generalize wr.alloc (.cells #[.int .u8 97] 5) = w4 at *
            refine (write_any w4 g _ (aas k) [97] HK4.out.c (by have := HK4.out.g0; have := HK4.out.p0; omega) HK4.out.h (aas_byte k) HL4.out (fun _ => not_slice_own _ _ _ HN4.out) (by rw [aas_len, List.length_singleton]; omega)).mono ?_
            rintro e w5 ⟨rfl, hh5, hk5⟩
            rw [aas_snoc] at hh5
            have HK5 := hide ((HK4.out.write hk5 hh5).below (below_alloc w5 (.cells #[.int .u8 97] 5)))
            have HL5 := hide (lit_bsl w5 #[.int .u8 97] (0, 0) 1 [97] rfl rfl (by simp) (by omega))
            have HSZ : Hid ((aas k).length + ([97] : List Nat).length ≤ 140737488355328) := by show _ ≤ _; rw [aas_len, List.length_singleton]; omega
            clear hh5 hk5 HK4 HL4 HN4 HK
            go_wp2_with (at_builtin; refine append_bsl rfl _ _ rfl w.heap.size _ (aas k).length (aas k) rfl HK5.out.a _ [97] rfl HL5.out HSZ.out HK5.out.l.size ?_)
            intro v7 w7 ho7 hg7
            rw [aas_snoc] at ho7
            have e7 : (aas k).length + 1 = (aas (k + 1)).length := by rw [aas_len, aas_len]
            rw [e7] at ho7
            have HK7 := hide (HK5.out.app (k' := k + 1) hg7 ho7)
            clear e7
            clear ho7 hg7 HK5 HL5
            go_wp2_with fail
            go_roundw
            case rel => exact ⟨k + 1, by omega, by go_num, HK7⟩
            case measure => simp [intOf]; omega
          · have g2 : ¬ (k : Int) < (N : Int) := by omega
            have hkN2 : k = N := by omega
            subst hkN2
            have HAL : Hid ((aas k).length ≤ 140737488351232) := by show _ ≤ _; rw [aas_len]; omega
            go_wp2_with fail
            refine (sum_any wr u6 (aas k) HK.out.c (BSl.own HK.out.a (aas_byte k)) HAL.out).mono ?_
            rintro e w4 ⟨rfl, hb4⟩
            have HI := hide (info32d (aas k))
            have HON := hide (one32 (aas k))
            have HSL := hide (sha_len (aas k))
            have HK5 : Hid (Kst w (w4.alloc (.cells (bv (sha (aas k))).toArray 22)) g u3 t k u6 k) :=
              HK.out.below (hb4.trans ((below_alloc w4 (.cells (bv (sha (aas k))).toArray 22)).mono hb4.size))
            have HD5 : Hid ((w4.alloc (.cells (bv (sha (aas k))).toArray 22)).heap[w4.heap.size]? = some (.cells (bv (sha (aas k))).toArray 22 (0, 0))) := heap_alloc_new w4 _
            clear hb4 HK
            have HDD : Hid (sha (aas k) = sha (aas k)) := rfl
            generalize hD : sha (aas k) = D at *
            have HDE := hide hD
            clear hD HDD
            go_wp2_with (refine wpList_storeRow rfl rfl w4.heap.size _ (bv D).toArray 22 rfl rfl (heap_alloc_new w4 _) HI.out (by simp [bv_len, HSL.out]) HON.out ?_; rw [World.setRow_alloc_new]; generalize w4.alloc (.cells (bv D).toArray 22) = w5 at *; generalize w4.heap.size = dd at *)
            have HI2 : Hid ((Tryd.prog.info? 22).map (·.size) = some (bv D).length) := by
              show _ = _
              rw [bv_len, HSL.out]
              exact info32
            have HRD : Hid (∀ wx, Below w5.heap.size w5 wx → wx.rangeAt dd 0 (bv D)) := fun wx hb => cells_of ((hb.block dd (blk_lt HD5.out)).trans HD5.out)
            try simp only [Act.put]
            refine heldStartK (S := fun w' => Below w5.heap.size w5 w') 4 rfl (by kernel_rfl) ?_
            have hS : Below w5.heap.size w5 w5.drew := (Below.refl _ _).drew
            refine heldTake 0 _ rfl (by kernel_rfl) (by kernel_rfl) (by kernel_rfl) (fun _ _ _ h => h) rfl hS (fun wy hy => loadA_run wy (HRD.out _ hy) rfl rfl HI2.out Tryd.underlying22) ?_
            (try simp only [Act.put]); (try simp only [List.setIfInBounds_toArray, List.set_cons_zero, List.set_cons_succ])
            refine heldTake 1 _ rfl (by kernel_rfl) (by kernel_rfl) (by kernel_rfl) (fun _ _ _ h => h) rfl hS (fun wy hy => by first | (go_simp; done) | (go_simp; rfl) | rfl) ?_
            (try simp only [Act.put]); (try simp only [List.setIfInBounds_toArray, List.set_cons_zero, List.set_cons_succ])
            refine heldStep 2 rfl (by kernel_rfl) (fun K hK => ?_)
            go_simp
            refine (hsum_any _ g (aas k) (HK5.out.c.below hS) (HK5.out.h.below hS) (aas_byte k) HAL.out).mono ?_
            rw [HDE.out]
            rintro e wn ⟨rfl, hbn⟩
            refine (Hid.out hK) _ _ (hS.trans (hbn.mono hS.size)) (fun hS2 => ?_)
            clear hK K hS
            have hS := hS2
            clear hS2
            (try simp only [Act.put]); (try simp only [List.setIfInBounds_toArray, List.set_cons_zero, List.set_cons_succ])
            clear hbn
            refine heldTake 3 _ rfl (by kernel_rfl) (by kernel_rfl) (by kernel_rfl) (fun _ _ _ h => h) rfl hS (fun wy hy => by have he := eqin32 wy D D HSL.out HSL.out; go_simp; rfl) ?_
            (try simp only [Act.put]); (try simp only [List.setIfInBounds_toArray, List.set_cons_zero, List.set_cons_succ])
            refine heldDone (by kernel_rfl) ?_
            have HL8 := hide hS
            clear hS
            obtain ⟨sa, sc, hu3, hga⟩ := own_form32 HK5.out.s
            subst hu3
            go_wp2_with fail
            go_loopw [9] (fun jj wx => ∃ j : Nat, j ≤ t ∧ jj = .int .i64 (j : Nat) ∧ Hid (Below w5.heap.size w5 wx)) (fun jj _ => t - (intOf jj).toNat)
            case atStart => exact ⟨0, by omega, rfl, HL8⟩
            case round =>
              obtain ⟨j, hj, rfl, HL⟩ := hrel
              clear HL8
              by_cases hjt : j < t
              · have g3 : (j : Int) < (t : Int) := by omega
                obtain ⟨gs, hgs⟩ := hga (by omega)
                subst hgs
                have HRS : Hid (∀ wx, Below w5.heap.size w5 wx → wx.rangeAt gs (j * 32) (bv (sha (aas (lenAt j))))) := fun wx hb => seen_range (own_below HK5.out.s hb (rfl : 0 = 0)) j hjt
                have HI3 : Hid ((Tryd.prog.info? 22).map (·.size) = some (bv (sha (aas (lenAt j)))).length) := by
                  show _ = _
                  rw [bv_len, sha_len]
                  exact info32
                have hnd : ¬ sha (aas (lenAt j)) = D := by
                  rw [← HDE.out, ← HN.out]
                  intro e
                  have := shas_un (by omega) ht26 e
                  omega
                have HSJ := hide (sha_len (aas (lenAt j)))
                generalize sha (aas (lenAt j)) = E at *
                go_wp2_with fail
                refine heldStartK (S := fun w' => Below w5.heap.size w5 w') 6 rfl (by kernel_rfl) ?_
                have hS : Below w5.heap.size w5 wr.drew := HL.out.trans ((Below.refl _ _).drew)
                refine heldTake 0 _ rfl (by kernel_rfl) (by kernel_rfl) (by kernel_rfl) (fun _ _ _ h => h) rfl hS (fun wy hy => by first | (go_simp; done) | (go_simp; rfl) | rfl) ?_
                (try simp only [Act.put]); (try simp only [List.setIfInBounds_toArray, List.set_cons_zero, List.set_cons_succ])
                refine heldTake 1 _ rfl (by kernel_rfl) (by kernel_rfl) (by kernel_rfl) (fun _ _ _ h => h) rfl hS (fun wy hy => by first | (go_simp; done) | (go_simp; rfl) | rfl) ?_
                (try simp only [Act.put]); (try simp only [List.setIfInBounds_toArray, List.set_cons_zero, List.set_cons_succ])
                refine heldTake 2 _ rfl (by kernel_rfl) (by kernel_rfl) (by kernel_rfl) (fun _ _ _ h => h) rfl hS (fun wy hy => by first | (go_simp; done) | (go_simp; rfl) | rfl) ?_
                (try simp only [Act.put]); (try simp only [List.setIfInBounds_toArray, List.set_cons_zero, List.set_cons_succ])
                refine heldTake 3 _ rfl (by kernel_rfl) (by kernel_rfl) (by kernel_rfl) (fun _ _ _ h => h) rfl hS (fun wy hy => loadAt_run wy (HRS.out _ hy) rfl rfl HI3.out Tryd.underlying22) ?_
                (try simp only [Act.put]); (try simp only [List.setIfInBounds_toArray, List.set_cons_zero, List.set_cons_succ])
                refine heldTake 4 _ rfl (by kernel_rfl) (by kernel_rfl) (by kernel_rfl) (fun _ _ _ h => h) rfl hS (fun wy hy => loadA_run wy (HRD.out _ hy) rfl rfl HI2.out Tryd.underlying22) ?_
                (try simp only [Act.put]); (try simp only [List.setIfInBounds_toArray, List.set_cons_zero, List.set_cons_succ])
                refine heldTake 5 _ rfl (by kernel_rfl) (by kernel_rfl) (by kernel_rfl) (fun _ _ _ h => h) rfl hS (fun wy hy => by have he := eqin32 wy E D HSJ.out HSL.out; rw [decide_eq_false hnd] at he; go_simp; rfl) ?_
                (try simp only [Act.put]); (try simp only [List.setIfInBounds_toArray, List.set_cons_zero, List.set_cons_succ])
                refine heldDone (by kernel_rfl) ?_
                have HL9 := hide hS
                clear hS
                go_wp2_with fail
                go_roundw
                case rel => exact ⟨j + 1, by omega, by go_num, HL9⟩
                case measure => simp [intOf]; omega
              · have g3 : ¬ (j : Int) < (t : Int) := by omega
                have HK9 := hide (HK5.out.below HL.out)
                have HD9 : Hid (wr.heap[dd]? = some (.cells (bv D).toArray 22 (0, 0))) := (HL.out.block dd (blk_lt HD5.out)).trans HD5.out
                have HK10 := hide (HK9.out.below (below_alloc wr (.cells (bv D).toArray 22)))
                have HDA : Hid ((wr.alloc (.cells (bv D).toArray 22)).heap[wr.heap.size]? = some (.cells (bv D).toArray 22 (0, 0))) := heap_alloc_new wr _
                have HDS : Hid ((bv D).toArray.size = 32) := by show _ = _; rw [List.size_toArray, bv_len, HSL.out]
                have HI4 : Hid ((Tryd.prog.info? 22).map (·.size) = some (bv D).toArray.size) := by show _ = _; rw [List.size_toArray, bv_len, HSL.out]; exact info32
                go_wp2_with (first
                  | (refine wpList_loadRow rfl rfl dd 32 (bv D).toArray 22 rfl HD9.out Tryd.underlying22 HI4.out ?_)
                  | (refine wpList_one32 rfl (.tmp 68) rfl (bv D).toArray HDS.out rfl ?_)
                  | (at_builtin; refine append_sum rfl _ _ rfl w.heap.size _ t (seenl t) rfl HK10.out.s wr.heap.size D rfl HSL.out HDA.out (by omega) HK10.out.l.size ?_))
                intro v7 w7 ho7 hg7
                have HSF : Hid (Kw w w7 ∧ w7.ownsRow w.heap.size 22 32 v7 (t + 1) (seenl (t + 1))) := by
                  have h := HK10.out
                  have hkp : Kp (fun q => (Value.slice sa t sc).ownBlock = some q) _ w7 := (Kp.refl _ _).grown hg7 (fun k _ h => h)
                  have lo : ∀ q, (Value.slice sa t sc).ownBlock = some q → w.heap.size ≤ q := fun q hq => (h.s.lt q hq).1
                  have p0 := h.p0
                  refine ⟨⟨h.c.kp hkp (fun e => by have := lo 0 e; omega), h.l.trans (hkp.below h.l.size lo)⟩, ?_⟩
                  rw [seenl_succ, HN.out, HDE.out]
                  exact ho7
                clear ho7 hg7 HK10 HDA
                have hle : headAt t ≤ k := by have := headAt_le t; have := HN.out; omega
                have hlt : headAt t < 131 := (headAt_lt ht).2 ht26
                have hnx := HNX.out
                go_wp2_with fail
                go_roundw
                case rel => exact ⟨t + 1, by omega, by rw [← hnx]; go_num, HSF⟩
                case measure => simp [intOf]; omega
    · have g1 : ¬ ((headAt t : Nat) : Int) < 131 := by intro h; exact ht26 ((headAt_lt ht).1 (by omega))
      go_wp2_with fail
      refine (begun_any wr HS.out.1.c).mono ?_
      rintro e w9 ⟨rfl, hb9⟩
      have HB9 : Hid (Below w.heap.size w w9) := HS.out.1.l.trans (hb9.mono HS.out.1.l.size)
      clear hb9
      go_wp2_with fail
      go_ret
      exact ⟨rfl, HB9.out⟩
end Go.Proofs.YtedgdnoafajhoabDoor
