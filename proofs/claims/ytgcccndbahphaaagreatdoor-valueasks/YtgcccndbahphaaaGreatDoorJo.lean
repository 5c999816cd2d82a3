import Derived.Test.YtgcccndbahphaaaGreatDoorJn
import Derived.Test.YtgcccndbahphaaaGreatDoorJe
import Derived.Test.YtgcccndbahphaaaGreatDoorJl
import Derived.Test.YtgcccndbahphaaaGreatDoorJi
import Derived.Test.YtgcccndbahphaaaGreatDoorJh
import Derived.Test.YtgcccndbahphaaaGreatDoorJb
namespace Go.Proofs.YtgcccndbahphaaaGreatDoor
section
open Go.RowKit Go
theorem wp_append_at {o : Oper} {a : Act} {K : Act → World → Prop} {Q : Exit → Act → World → Prop} {w : World} (s x : Operand) (t : TypeId) (ho : o.op = .call { callee := .builtin .append, args := #[s, x], argTypes := #[t, t] })
    (base : Nat) (e : TypeId) (i : TypeInfo) (z : Value) (size bytes : Nat) (ht : Tryz.prog.underlying t = some (.slice e)) (hi : Tryz.prog.info? e = some i) (hz : i.zero = some z) (hsize : i.size = size) (hby : i.bytes = bytes) (hzs : z.cells.size = size) (hsz : 0 < size)
    (v : Value) (n : Nat) (xs : List Value) (hs : a.eval s = v) (hown : w.ownsRow base e size v n xs) (ad : Addr) (m c : Nat) (news : List Value) (hx : a.eval x = .slice (some ad) m c) (hl : news.length = m * size) (hnews : ∀ j u, news[j]? = some u → w.cell? (ad.add j) = some u) (h1 : ∀ u ∈ news, u.oneCell' = true)
    (h63 : n + m ≤ maxLen) (hbytes : (n + m) * bytes ≤ 140737488355328) (hbase : base ≤ w.heap.size)
    (h : ∀ v' w', w'.ownsRow base e size v' (n + m) (xs ++ news) → w.grownBy w' v.ownBlock → (v'.ownBlock = v.ownBlock ∨ v'.ownBlock = some w.heap.size) → K (a.put o.dst v') w') : Oper.wp Tryz.prog o a w K Q := by
  obtain ⟨v', w', hr, h2, h3, _, h5⟩ := run_append_own_at (P := Tryz.prog) w base t o.type e i z size bytes ht hi hz hsize hby hzs hsz v n xs hown ad m c news hl hnews h1 h63 hbytes hbase
  unfold Oper.wp execOp
  simp only [ho, resolve, invoke, builtin, Sem.run_bind, Sem.run_pure, Result.andThen_ok, List.map_toArray, List.map_cons, List.map_nil, hs, hx, hr]
  exact h v' w' h2 h3 h5
theorem add0 (g j : Nat) : (⟨g, 0, none⟩ : Addr).add j = ⟨g, j, none⟩ := by unfold Addr.add; split <;> simp_all
theorem step_append_val {ops : Array Oper} {o : Oper} {a : Act} {K : Act → World → Prop} {Q : Exit → Act → World → Prop} {w : World} (hw : Region.wanted o (yielded ops a.tmps) = true) (s x : Operand)
    (ho : o.op = .call { callee := .builtin .append, args := #[s, x], argTypes := #[22, 22] }) (B : Nat) (v : Value) (n : Nat) (ds : List Value) (hs : a.eval s = v) (hown : w.ownsRow B 55 13 v n ds)
    (g : Nat) (c : Array Value) (h13 : one13 c) (hx : a.eval x = .slice (some ⟨g, 0, none⟩) 1 1) (hg : w.heap[g]? = some (.cells c 55 (0, 0))) (hlen : n < 1099511627) (hbase : B ≤ w.heap.size)
    (h : ∀ v' w', w'.ownsRow B 55 13 v' (n + 1) (ds ++ c.toList) → w.grownBy w' v.ownBlock → (v'.ownBlock = v.ownBlock ∨ v'.ownBlock = some w.heap.size) → K (a.put o.dst v') w') : if Region.wanted o (yielded ops a.tmps) = true then Oper.wp Tryz.prog o a w K Q else K (a.put o.dst undef) w := by
  rw [if_pos hw]
  obtain ⟨i, hi, hz0, hz1, hz2⟩ := infoV_ex
  refine wp_append_at s x 22 ho B 55 i _ 13 160 Tryz.underlying22 hi hz0 hz1 hz2 rfl (by decide) v n ds hs hown ⟨g, 0, none⟩ 1 1 c.toList hx (by rw [Array.length_toList, h13.1]) (fun j u hu => ?_) h13.2 (by unfold maxLen; omega) (by omega) hbase h
  rw [add0]
  exact blk_cell hg (by simpa using hu)
theorem step_append_str {ops : Array Oper} {o : Oper} {a : Act} {K : Act → World → Prop} {Q : Exit → Act → World → Prop} {w : World} (hw : Region.wanted o (yielded ops a.tmps) = true) (s x : Operand)
    (ho : o.op = .call { callee := .builtin .append, args := #[s, x], argTypes := #[23, 23] }) (B : Nat) (v : Value) (n : Nat) (ks : List ByteArray) (hs : a.eval s = v) (hown : w.ownsRow B 9 1 v n (sv ks))
    (g : Nat) (str : ByteArray) (hx : a.eval x = .slice (some ⟨g, 0, none⟩) 1 1) (hg : w.heap[g]? = some (.cells #[.string str] 9 (0, 0))) (hlen : n < 1099511627) (hbase : B ≤ w.heap.size)
    (h : ∀ v' w', w'.ownsRow B 9 1 v' (n + 1) (sv (ks ++ [str])) → w.grownBy w' v.ownBlock → (v'.ownBlock = v.ownBlock ∨ v'.ownBlock = some w.heap.size) → K (a.put o.dst v') w') : if Region.wanted o (yielded ops a.tmps) = true then Oper.wp Tryz.prog o a w K Q else K (a.put o.dst undef) w := by
  rw [if_pos hw]
  obtain ⟨i, hi, hz0, hz1, hz2⟩ := info9_ex
  have e : sv (ks ++ [str]) = sv ks ++ [.string str] := by simp [sv]
  refine wp_append_at s x 23 ho B 9 i _ 1 16 Tryz.underlying23 hi hz0 hz1 hz2 rfl (by decide) v n (sv ks) hs hown ⟨g, 0, none⟩ 1 1 [.string str] hx rfl (fun j u hu => ?_) (fun u hu => by rw [List.mem_singleton.1 hu]; rfl) (by unfold maxLen; omega) (by omega) hbase (fun v' w' h1 h2 h3 => h v' w' (by rw [e]; exact h1) h2 h3)
  rw [add0]
  exact blk_cell hg (by simpa using hu)
theorem step_val1 {ops : Array Oper} {o : Oper} {a : Act} {K : Act → World → Prop} {Q : Exit → Act → World → Prop} {w : World} (hw : Region.wanted o (yielded ops a.tmps) = true) {x0 : Operand} (ho : o.op = .buildSlice 22 1 #[(0, x0)]) (c : Array Value) (hc : c.size = 13) (h0 : a.eval x0 = .agg c)
    (h : K (a.put o.dst (.slice (some ⟨w.heap.size, 0, none⟩) 1 1)) (w.alloc (.cells c 55))) : if Region.wanted o (yielded ops a.tmps) = true then Oper.wp Tryz.prog o a w K Q else K (a.put o.dst undef) w := by
  rw [if_pos hw]
  obtain ⟨i, hi, hz, hs, _⟩ := infoV_ex
  refine wp_buildSlice 22 55 1 _ ho c i _ Tryz.underlying22 hi hz (by rw [hs]; decide) (by rw [hs]; decide) ?_ h
  rw [hs]
  have e : ((#[(0, x0)] : Array (Nat × Operand)).map fun (i, x) => (i, a.eval x)).toList = [(0, .agg c)] := by simp [h0]
  rw [e]
  exact fill_one c _ hc (by simp)
end
section
open Go.RowKit Go
/-- The key at a place. -/
def kat (ks : List ByteArray) (p : Nat) : List Nat := sl (ks.getD p ⟨#[]⟩)
/-- Two rows of places being put into one. -/
structure Mrg (ks : List ByteArray) (a b : List Nat) (i k : Nat) (out : List Nat) : Prop where
  p : out.Perm (a.take i ++ b.take k)
  s : out.Pairwise (fun p q => bfr (kat ks q) (kat ks p) = false)
  r : ∀ p ∈ out, ∀ q, q ∈ a.drop i ∨ q ∈ b.drop k → bfr (kat ks q) (kat ks p) = false
theorem Mrg.start (ks : List ByteArray) (a b : List Nat) : Mrg ks a b 0 0 [] := ⟨by simp, by simp, by simp⟩
theorem pw_drop {R : Nat → Nat → Prop} {a : List Nat} (h : a.Pairwise R) {i x : Nat} (hx : a[i]? = some x) : ∀ q ∈ a.drop (i + 1), R x q := by
  have hi := (List.getElem?_eq_some_iff.1 hx).1
  have h2 : (a.drop i).Pairwise R := h.sublist (List.drop_sublist i a)
  rw [List.drop_eq_getElem_cons hi] at h2
  rw [List.getElem?_eq_getElem hi] at hx
  injection hx with hx
  subst hx
  exact fun q hq => List.rel_of_pairwise_cons h2 hq
theorem mem_drop_cons {a : List Nat} {i x q : Nat} (hx : a[i]? = some x) (hq : q ∈ a.drop i) : q = x ∨ q ∈ a.drop (i + 1) := by
  have hi := (List.getElem?_eq_some_iff.1 hx).1
  rw [List.drop_eq_getElem_cons hi] at hq
  rw [List.getElem?_eq_getElem hi] at hx
  injection hx with hx
  subst hx
  exact List.mem_cons.1 hq
theorem mem_drop_at {a : List Nat} {i x : Nat} (hx : a[i]? = some x) : x ∈ a.drop i := by
  have hi := (List.getElem?_eq_some_iff.1 hx).1
  rw [List.drop_eq_getElem_cons hi]
  rw [List.getElem?_eq_getElem hi] at hx
  injection hx with hx
  simp [hx]
theorem mem_drop_succ {a : List Nat} {i q : Nat} (hq : q ∈ a.drop (i + 1)) : q ∈ a.drop i := by
  have e : a.drop (i + 1) = (a.drop i).drop 1 := by rw [List.drop_drop]
  rw [e] at hq
  exact List.mem_of_mem_drop hq
theorem take_at2 {a : List Nat} {i x : Nat} (hx : a[i]? = some x) : a.take (i + 1) = a.take i ++ [x] := by
  have hi := (List.getElem?_eq_some_iff.1 hx).1
  rw [List.take_succ_eq_append_getElem hi]
  rw [List.getElem?_eq_getElem hi] at hx
  injection hx with hx
  rw [hx]
theorem Mrg.left {ks : List ByteArray} {a b out : List Nat} {i k x : Nat} (h : Mrg ks a b i k out) (ha : a.Pairwise (fun p q => bfr (kat ks q) (kat ks p) = false)) (hb : b.Pairwise (fun p q => bfr (kat ks q) (kat ks p) = false)) (hx : a[i]? = some x)
    (hy : ∀ y, b[k]? = some y → bfr (kat ks y) (kat ks x) = false) : Mrg ks a b (i + 1) k (out ++ [x]) := by
  refine ⟨?_, ?_, ?_⟩
  · rw [take_at2 hx]
    refine (h.p.append_right [x]).trans ?_
    rw [List.append_assoc, List.append_assoc]
    exact (List.perm_append_comm).append_left _
  · rw [List.pairwise_append]
    refine ⟨h.s, by simp, ?_⟩
    intro p hp q hq
    rw [List.mem_singleton] at hq
    subst hq
    exact h.r p hp q (.inl (mem_drop_at hx))
  · intro p hp q hq
    rw [List.mem_append, List.mem_singleton] at hp
    rcases hp with hp | rfl
    · rcases hq with hq | hq
      · exact h.r p hp q (.inl (mem_drop_succ hq))
      · exact h.r p hp q (.inr hq)
    · rcases hq with hq | hq
      · exact pw_drop ha hx q hq
      · have hkl : k < b.length := by
          rcases Nat.lt_or_ge k b.length with h1 | h1
          · exact h1
          · rw [List.drop_of_length_le h1] at hq; simp at hq
        have hk := List.getElem?_eq_getElem hkl
        rcases mem_drop_cons hk hq with rfl | hq
        · exact hy _ hk
        · exact bfr_nt _ _ _ (pw_drop hb hk q hq) (hy _ hk)
theorem Mrg.right {ks : List ByteArray} {a b out : List Nat} {i k y : Nat} (h : Mrg ks a b i k out) (ha : a.Pairwise (fun p q => bfr (kat ks q) (kat ks p) = false)) (hb : b.Pairwise (fun p q => bfr (kat ks q) (kat ks p) = false)) (hy : b[k]? = some y)
    (hx : ∀ x, a[i]? = some x → bfr (kat ks x) (kat ks y) = false) : Mrg ks a b i (k + 1) (out ++ [y]) := by
  refine ⟨?_, ?_, ?_⟩
  · rw [take_at2 hy, ← List.append_assoc]
    exact h.p.append_right [y]
  · rw [List.pairwise_append]
    refine ⟨h.s, by simp, ?_⟩
    intro p hp q hq
    rw [List.mem_singleton] at hq
    subst hq
    exact h.r p hp q (.inr (mem_drop_at hy))
  · intro p hp q hq
    rw [List.mem_append, List.mem_singleton] at hp
    rcases hp with hp | rfl
    · rcases hq with hq | hq
      · exact h.r p hp q (.inl hq)
      · exact h.r p hp q (.inr (mem_drop_succ hq))
    · rcases hq with hq | hq
      · have hil : i < a.length := by
          rcases Nat.lt_or_ge i a.length with h1 | h1
          · exact h1
          · rw [List.drop_of_length_le h1] at hq; simp at hq
        have hi := List.getElem?_eq_getElem hil
        rcases mem_drop_cons hi hq with rfl | hq
        · exact hx _ hi
        · exact bfr_nt _ _ _ (pw_drop ha hi q hq) (hx _ hi)
      · exact pw_drop hb hy q hq
theorem bfr_asym {x y : List Nat} (h : bfr x y = true) : bfr y x = false := by
  rcases Bool.eq_false_or_eq_true (bfr y x) with h2 | h2
  · have := bfr_tr _ _ _ h h2
    rw [bfr_self] at this
    exact absurd this (by simp)
  · exact h2
theorem kat_take {ks : List ByteArray} {h p : Nat} (hp : p < h) : kat (ks.take h) p = kat ks p := by
  unfold kat List.getD
  rw [List.getElem?_take_of_lt hp]
theorem kat_drop (ks : List ByteArray) (h p : Nat) : kat (ks.drop h) p = kat ks (h + p) := by
  unfold kat List.getD
  rw [List.getElem?_drop]
theorem srp_pw {ks : List ByteArray} {n : Nat} {ps : List Nat} (h : Srp ks n ps) : ps.Pairwise (fun p q => bfr (kat ks q) (kat ks p) = false) := h.pw
theorem srp_left {ks : List ByteArray} {h : Nat} {a : List Nat} (hs : Srp (ks.take h) h a) : a.Pairwise (fun p q => bfr (kat ks q) (kat ks p) = false) := by
  refine (srp_pw hs).imp_of_mem ?_
  intro p q hp hq e
  rw [kat_take (hs.lt p hp), kat_take (hs.lt q hq)] at e
  exact e
theorem srp_right {ks : List ByteArray} {h m : Nat} {b : List Nat} (hs : Srp (ks.drop h) m b) : (b.map (h + ·)).Pairwise (fun p q => bfr (kat ks q) (kat ks p) = false) := by
  rw [List.pairwise_map]
  refine (srp_pw hs).imp ?_
  intro p q e
  rw [kat_drop, kat_drop] at e
  exact e
theorem Mrg.done {ks : List ByteArray} {h n : Nat} {a b out : List Nat} (hm : Mrg ks a (b.map (h + ·)) a.length b.length out) (hs : Srp (ks.take h) h a) (ht : Srp (ks.drop h) (n - h) b) (hn : h ≤ n) : Srp ks n out := by
  refine ⟨?_, ?_⟩
  · refine hm.p.trans ?_
    rw [List.take_length, show b.length = (b.map (h + ·)).length by simp, List.take_length]
    have e : List.range n = List.range h ++ (List.range (n - h)).map (h + ·) := by
      have e2 : n = h + (n - h) := by omega
      conv => lhs; rw [e2]
      rw [List.range_add]
    rw [e]
    exact hs.p.append (ht.p.map _)
  · intro i j p q hij hp hq
    have h1 := List.pairwise_iff_getElem.1 hm.s i j (List.getElem?_eq_some_iff.1 hp).1 (List.getElem?_eq_some_iff.1 hq).1 hij
    rw [(List.getElem?_eq_some_iff.1 hp).2, (List.getElem?_eq_some_iff.1 hq).2] at h1
    exact h1
theorem Mrg.len {ks : List ByteArray} {a b out : List Nat} {i k : Nat} (h : Mrg ks a b i k out) (hi : i ≤ a.length) (hk : k ≤ b.length) : out.length = i + k := by
  rw [h.p.length_eq, List.length_append, List.length_take, List.length_take]
  omega
theorem srp_nil : Srp [] 0 [] := ⟨by simp, by simp⟩
theorem srp_single (s : ByteArray) : Srp [s] 1 [0] := ⟨by simp [List.range_succ], fun i j p q hij hp hq => by
  have h1 := (List.getElem?_eq_some_iff.1 hq).1
  simp at h1
  omega⟩
end
section
open Go.RowKit Go
/-- What the reference's Order does. -/
def OrdC (ks : List ByteArray) : Prop := ∀ (w : World) (v : Value), SSl w v ks → ks.length ≤ 100000 → Calls Tryz.prog 48 #[v] w fun e w' => ∃ v' ps, e = .returned v' ∧ Srp ks ks.length ps ∧ w'.ownsRow w.heap.size 3 1 v' ps.length (ivs ps) ∧ Below w.heap.size w w'
theorem SSl.take {w : World} {b off n cap h : Nat} {ks : List ByteArray} (hs : SSl w (.slice (some ⟨b, off, none⟩) n cap) ks) (hh : h ≤ ks.length) : SSl w (.slice (some ⟨b, off, none⟩) h cap) (ks.take h) := by
  obtain ⟨⟨a, c, hv, hn, hc⟩, h1, h2⟩ := hs
  injection hv with e1 e2 e3
  subst e1 e2 e3
  have hl : (ks.take h).length = h := by rw [List.length_take]; omega
  refine ⟨⟨_, _, by rw [hl], ⟨by omega, hn.2⟩, ?_⟩, by omega, fun s hs => h2 s (List.mem_of_mem_take hs)⟩
  rcases hc with hc | ⟨b', off', ha, hc⟩
  · exact .inl (by rw [hc]; simp)
  · refine .inr ⟨b', off', ha, fun j s hj => hc j s ?_⟩
    have hjl := (List.getElem?_eq_some_iff.1 hj).1
    rw [List.getElem?_take_of_lt (by omega)] at hj
    exact hj
theorem SSl.drop {w : World} {b off n cap h : Nat} {ks : List ByteArray} (hs : SSl w (.slice (some ⟨b, off, none⟩) n cap) ks) (hh : h ≤ ks.length) : SSl w (.slice (some ⟨b, off + h, none⟩) (n - h) (cap - h)) (ks.drop h) := by
  obtain ⟨⟨a, c, hv, hn, hc⟩, h1, h2⟩ := hs
  injection hv with e1 e2 e3
  subst e1 e2 e3
  have hl : (ks.drop h).length = ks.length - h := List.length_drop
  refine ⟨⟨_, _, by rw [hl], ⟨by omega, fun h => by cases h⟩, ?_⟩, by omega, fun s hs => h2 s (List.mem_of_mem_drop hs)⟩
  rcases hc with hc | ⟨b', off', ha, hc⟩
  · exact .inl (by rw [hc]; simp)
  · injection ha with ha
    injection ha with ha1 ha2
    subst ha1 ha2
    refine .inr ⟨_, _, rfl, fun j s hj => ?_⟩
    rw [Nat.add_assoc]
    rw [List.getElem?_drop] at hj
    exact hc _ s hj
set_option maxRecDepth 1000000 in
theorem OrdC.small {ks : List ByteArray} (h : ks.length ≤ 1) : OrdC ks := by
  intro w v hv hl
  obtain ⟨⟨a, cap, rfl, hn, hc⟩, h1, h2⟩ := hv
  clear hc h1 h2 hl hn
  by_cases h0 : ks.length = 0
  · as_aux_lemma =>
    have e : ks = [] := List.length_eq_zero_iff.1 h0
    subst e
    go_enter Tryz.func48, Tryz.ntmps48
    go_wp2_with fail
    go_ret
    exact ⟨_, [], rfl, srp_nil, World.ownsRow_nil _ _ _ _, Below.refl _ _⟩
  · as_aux_lemma =>
    obtain ⟨s, e⟩ := List.length_eq_one_iff.1 (show ks.length = 1 by omega)
    subst e
    clear h h0
    go_enter Tryz.func48, Tryz.ntmps48
    go_wp2_with (at_builtin; refine append_nat rfl _ _ rfl w.heap.size _ [] rfl (World.ownsRow_nil _ _ _ _) 0 rfl (by simp) (Nat.le_refl _) ?_)
    intro v5 w5 ho5 hb5
    have HO5 := hide ho5
    have HB5 := hide hb5
    clear ho5 hb5
    go_wp2_with fail
    go_ret
    exact ⟨_, [0], rfl, srp_single s, HO5.out, HB5.out⟩
set_option maxRecDepth 1000000 in
set_option maxHeartbeats 20000000 in
theorem order_step (ks : List ByteArray) (ih : ∀ l : List ByteArray, l.length < ks.length → OrdC l) : OrdC ks := by
  intro w v hv hl
  by_cases hsm : ks.length ≤ 1
  · exact OrdC.small hsm w v hv hl
  have HS0 := hide hv
  have HIH := hide ih
  clear ih
  obtain ⟨⟨a, cap, rfl, hn, hc⟩, h1, h2⟩ := hv
  have HSZ := hide h2
  obtain ⟨b, off, rfl, hcc⟩ := hc.resolve_left (fun h => by rw [h] at hsm; simp at hsm)
  have HCC := hide hcc
  clear hc hcc h1 h2
  have hcap := hn.1
  clear hn
  obtain ⟨h, hh⟩ : ∃ h, h = ks.length / 2 := ⟨_, rfl⟩
  have hq : ((ks.length : Int) / 2) = (h : Int) := by omega
  have hq2 : Int.tdiv (ks.length : Int) 2 = (h : Int) := by rw [Int.tdiv_eq_ediv_of_nonneg (by omega)]; exact hq
  have hhl : h < ks.length := by omega
  have hhp : 0 < h := by omega
  have g1 : ((ks.length : Int) == 1) = false := beq_eq_false_iff_ne.2 (by omega)
  have g0 : ((ks.length : Int) == 0) = false := beq_eq_false_iff_ne.2 (by omega)
  have gh : (h : Int) ≤ (cap : Int) := by omega
  have gh2 : (h : Int) ≤ (ks.length : Int) := by omega
  have gc : (ks.length : Int) ≤ (cap : Int) := by omega
  have HN : Hid (h = ks.length / 2) := hh
  have HBe : Hid (Below w.heap.size w w) := Below.refl _ _
  clear hh hsm
  go_enter Tryz.func48, Tryz.ntmps48
  go_wp2_with fail
  refine (HIH.out (ks.take h) (by rw [List.length_take]; omega) w _ (HS0.out.take (by omega)) (by rw [List.length_take]; omega)).mono ?_
  rintro e w1 ⟨va, pa, rfl, hsa, hoa, hb1⟩
  have hla : (ks.take h).length = h := by rw [List.length_take]; omega
  rw [hla] at hsa
  have hpa : pa.length = h := hsa.len
  have HSA := hide hsa
  have HB1 := hide hb1
  have hia : ISl w1 va pa := ISl.own hoa rfl (by omega)
  have HIA := hide hia
  clear hsa hoa hb1 hia hla
  go_wp2_with fail
  refine (HIH.out (ks.drop h) (by rw [List.length_drop]; omega) w1 _ ((HS0.out.move (keep_below HB1.out)).drop (by omega)) (by rw [List.length_drop]; omega)).mono ?_
  rintro e w3 ⟨vb, pb, rfl, hsb, hob, hb2⟩
  rw [List.length_drop] at hsb
  have hpb : pb.length = ks.length - h := hsb.len
  have HSB := hide hsb
  have hib : ISl w3 vb pb := ISl.own hob rfl (by omega)
  have hia : ISl w3 va pa := HIA.out.move (keep_below hb2)
  have HB3 : Hid (Below w.heap.size w w3) := HB1.out.trans (hb2.mono HB1.out.size)
  have HC3 : Hid (∀ j s, ks[j]? = some s → w3.cell? ⟨b, off + j, none⟩ = some (.string s)) := fun j s hj => keep_below HB3.out _ _ (HCC.out j s hj)
  have HPA : Hid (∀ p ∈ pa, p < h) := HSA.out.lt
  have HPB : Hid (∀ p ∈ pb, p < ks.length - h) := HSB.out.lt
  have HWA := hide (srp_left HSA.out)
  have HWB := hide (srp_right HSB.out)
  clear hsb hob hb2 HIA HB1 HCC HS0 HIH gh gh2 gc g0 g1 hq hq2
  obtain ⟨⟨aa, ca, rfl, hna, hca⟩, _⟩ := hia
  obtain ⟨ba, oa, rfl, hcca⟩ := hca.resolve_left (fun h => by rw [h] at hpa; simp at hpa; omega)
  obtain ⟨⟨ab, cb, rfl, hnb, hcb⟩, _⟩ := hib
  obtain ⟨bb, ob, rfl, hccb⟩ := hcb.resolve_left (fun h => by rw [h] at hpb; simp at hpb; omega)
  have HCA := hide hcca
  have HCB := hide hccb
  have HPL : Hid (pa.length = h ∧ pb.length = ks.length - h) := ⟨hpa, hpb⟩
  have hpa2 : pa.length ≤ 100000 := by omega
  have hpb2 : pb.length ≤ 100000 := by omega
  clear hca hcca hcb hccb hna hnb w1 hpa hpb
  go_wp2_with fail
  go_loopw [3, 7, 8] (fun vv ii kk wx => ∃ (i k : Nat) (os : List Nat), i ≤ pa.length ∧ k ≤ pb.length ∧ ii = .int .i64 (i : Nat) ∧ kk = .int .i64 (k : Nat) ∧ Hid (Mrg ks pa (pb.map (h + ·)) i k os) ∧ Hid (wx.ownsRow w3.heap.size 3 1 vv os.length (ivs os)) ∧ Hid (Below w3.heap.size w3 wx)) (fun _ ii kk _ => pa.length + pb.length - (intOf ii).toNat - (intOf kk).toNat)
  case atStart => exact ⟨0, 0, [], by omega, by omega, rfl, rfl, Mrg.start _ _ _, World.ownsRow_nil _ _ _ _, Below.refl _ _⟩
  case round =>
    obtain ⟨i, k, os, hi, hk, rfl, rfl, HM, HO, HBw⟩ := hrel
    obtain ⟨ax, cx, hvx⟩ := own_slice HO.out
    subst hvx
    have HLN : Hid (os.length < 1099511627776) := by
      have h1 := HM.out.len hi (by rw [List.length_map]; exact hk)
      show _ < _
      omega
    have hce : ∀ (p : Addr) (x : Value), w3.cell? p = some x → ∀ t : Ext wr, t.w'.cell? p = some x := fun p x hx t => keep_below t.h _ _ (keep_below HBw.out _ _ hx)
    by_cases hkb : k < pb.length
    · obtain ⟨y, hy⟩ : ∃ y, pb[k]? = some y := ⟨pb[k], List.getElem?_eq_getElem hkb⟩
      have hyl := HPB.out y (List.mem_of_getElem? hy)
      obtain ⟨m, hm⟩ : ∃ m, m = h + y := ⟨_, rfl⟩
      obtain ⟨sy, hsy⟩ : ∃ s, ks[m]? = some s := ⟨ks[m], List.getElem?_eq_getElem (by omega)⟩
      have HMY : Hid ((pb.map (h + ·))[k]? = some m) := by show _ = _; rw [List.getElem?_map, hy, hm]; rfl
      have HKY : Hid (kat ks m = sl sy) := by show sl (ks.getD _ _) = _; rw [List.getD_eq_getElem?_getD, hsy]; rfl
      have HSY := hide (HSZ.out sy (List.mem_of_getElem? hsy))
      have cB := hce _ _ (HCB.out k y hy)
      have cBw := keep_below HBw.out _ _ (HCB.out k y hy)
      have cE := hce _ _ (HC3.out _ sy hsy)
      have gk : (k : Int) < (pb.length : Int) := by omega
      have gke : ((k : Int) == (pb.length : Int)) = false := beq_eq_false_iff_ne.2 (by omega)
      have ey : (h : Int) + (y : Int) = (m : Int) := by omega
      have wm : IntKind.i64.wrap (m : Int) = (m : Int) := by rw [IntKind.wrap_i64]; omega
      have gy2 : (m : Int) < (ks.length : Int) := by omega
      have HML : Hid (m < ks.length) := by show _ < _; omega
      clear hm
      clear hy hsy
      by_cases hia : i < pa.length
      · obtain ⟨x, hx⟩ : ∃ x, pa[i]? = some x := ⟨pa[i], List.getElem?_eq_getElem hia⟩
        have hxl := HPA.out x (List.mem_of_getElem? hx)
        obtain ⟨sx, hsx⟩ : ∃ s, ks[x]? = some s := ⟨ks[x], List.getElem?_eq_getElem (by omega)⟩
        have HMX := hide hx
        have HKX : Hid (kat ks x = sl sx) := by show sl (ks.getD _ _) = _; rw [List.getD_eq_getElem?_getD, hsx]; rfl
        have cA := hce _ _ (HCA.out i x hx)
        have cAw := keep_below HBw.out _ _ (HCA.out i x hx)
        have cF := hce _ _ (HC3.out _ sx hsx)
        have gi : (i : Int) < (pa.length : Int) := by omega
        have gx : (x : Int) < (ks.length : Int) := by omega
        have HBC0 : Hid (∀ t : Ext wr, Calls Tryz.prog 95 #[.string sy, .string sx] t.w' fun e w'' => e = .returned (.bool (bfr (sl sy) (sl sx))) ∧ ∃ t' : Ext wr, w'' = t'.w') := fun t => Calls.ext_below (rbefore_any t.w' sy sx (by have := HSY.out; omega))
        clear hx hsx hce
        rcases Bool.eq_false_or_eq_true (bfr (sl sy) (sl sx)) with hbf | hbf
        · as_aux_lemma =>
          have HBC := HBC0
          rw [hbf] at HBC
          have HM2 : Hid (Mrg ks pa (pb.map (h + ·)) i (k + 1) (os ++ [m])) := HM.out.right HWA.out HWB.out HMY.out (fun x' hx' => by
            have e := hx'.symm.trans HMX.out
            injection e with e
            rw [e, HKX.out, HKY.out]
            exact bfr_asym hbf)
          clear HBC0 hbf HM
          go_wp2_with fail
          refine region_ext (by kernel_rfl) (by kernel_rfl) ?_
          repeat (
            with_reducible refine wpQuiet_step (fun K hK => ?_)
            go_simp
            first
              | (with_reducible refine hK _ ?_; clear hK K)
              | (rw [if_neg (by decide)]; with_reducible refine hK _ ?_; clear hK K)
              | (apply Exists.intro
                 refine ⟨fun _ => ?_, hK _ ?_⟩
                 (go_at_call 95; exact HBC.out _)
                 clear hK K))
          refine wpQuiet_nil ?_
          rintro _ ⟨tq, rfl⟩
          have HB2 : Hid (Below w3.heap.size w3 tq.w') := HBw.out.trans (tq.h.mono HBw.out.size)
          have HO2 : Hid (tq.w'.ownsRow w3.heap.size 3 1 (.slice ax os.length cx) os.length (ivs os)) := (Kp.of_below (S := fun _ => False) tq.h).owns HO.out (fun _ _ e => e)
          have cA2 := keep_below tq.h _ _ cBw
          clear HBw HO HBC cE cF cBw
          generalize tq.w' = w4 at *
          clear tq
          go_wp2_with (at_builtin; refine append_nat rfl _ _ rfl w3.heap.size _ os rfl HO2.out m rfl HLN.out HB2.out.size ?_)
          intro v5 w5 ho5 hb5
          have HO5 : Hid (w5.ownsRow w3.heap.size 3 1 v5 (os ++ [m]).length (ivs (os ++ [m]))) := by show World.ownsRow _ _ _ _ _ _ _; rw [List.length_append]; exact ho5
          have HB5 : Hid (Below w3.heap.size w3 w5) := HB2.out.trans hb5
          clear ho5 hb5 HO2 HB2
          go_wp2_with fail
          go_roundw
          case rel => exact ⟨i, k + 1, _, by omega, by omega, by go_num, by go_num, HM2, HO5, HB5⟩
          case measure => simp [intOf]; omega
        · as_aux_lemma =>
          have HBC := HBC0
          rw [hbf] at HBC
          have HM2 : Hid (Mrg ks pa (pb.map (h + ·)) (i + 1) k (os ++ [x])) := HM.out.left HWA.out HWB.out HMX.out (fun y' hy' => by
            have e := hy'.symm.trans HMY.out
            injection e with e
            rw [e, HKX.out, HKY.out]
            exact hbf)
          clear HBC0 hbf HM
          go_wp2_with fail
          refine region_ext (by kernel_rfl) (by kernel_rfl) ?_
          repeat (
            with_reducible refine wpQuiet_step (fun K hK => ?_)
            go_simp
            first
              | (with_reducible refine hK _ ?_; clear hK K)
              | (rw [if_neg (by decide)]; with_reducible refine hK _ ?_; clear hK K)
              | (apply Exists.intro
                 refine ⟨fun _ => ?_, hK _ ?_⟩
                 (go_at_call 95; exact HBC.out _)
                 clear hK K))
          refine wpQuiet_nil ?_
          rintro _ ⟨tq, rfl⟩
          have HB2 : Hid (Below w3.heap.size w3 tq.w') := HBw.out.trans (tq.h.mono HBw.out.size)
          have HO2 : Hid (tq.w'.ownsRow w3.heap.size 3 1 (.slice ax os.length cx) os.length (ivs os)) := (Kp.of_below (S := fun _ => False) tq.h).owns HO.out (fun _ _ e => e)
          have cA2 := keep_below tq.h _ _ cAw
          clear HBw HO HBC cE cF cAw
          generalize tq.w' = w4 at *
          clear tq
          go_wp2_with (at_builtin; refine append_nat rfl _ _ rfl w3.heap.size _ os rfl HO2.out x rfl HLN.out HB2.out.size ?_)
          intro v5 w5 ho5 hb5
          have HO5 : Hid (w5.ownsRow w3.heap.size 3 1 v5 (os ++ [x]).length (ivs (os ++ [x]))) := by show World.ownsRow _ _ _ _ _ _ _; rw [List.length_append]; exact ho5
          have HB5 : Hid (Below w3.heap.size w3 w5) := HB2.out.trans hb5
          clear ho5 hb5 HO2 HB2
          go_wp2_with fail
          go_roundw
          case rel => exact ⟨i + 1, k, _, by omega, by omega, by go_num, by go_num, HM2, HO5, HB5⟩
          case measure => simp [intOf]; omega
      · as_aux_lemma =>
        have hie : i = pa.length := by omega
        subst hie
        clear hia hi
        have HM2 : Hid (Mrg ks pa (pb.map (h + ·)) pa.length (k + 1) (os ++ [m])) := HM.out.right HWA.out HWB.out HMY.out (fun x' hx' => by
          have := (List.getElem?_eq_some_iff.1 hx').1
          omega)
        clear HM hce
        go_wp2_with fail
        refine region_ext (by kernel_rfl) (by kernel_rfl) ?_
        repeat (
          with_reducible refine wpQuiet_step (fun K hK => ?_)
          go_simp
          first
            | (with_reducible refine hK _ ?_; clear hK K)
            | (rw [if_neg (by decide)]; with_reducible refine hK _ ?_; clear hK K))
        refine wpQuiet_nil ?_
        rintro _ ⟨tq, rfl⟩
        have HB2 : Hid (Below w3.heap.size w3 tq.w') := HBw.out.trans (tq.h.mono HBw.out.size)
        have HO2 : Hid (tq.w'.ownsRow w3.heap.size 3 1 (.slice ax os.length cx) os.length (ivs os)) := (Kp.of_below (S := fun _ => False) tq.h).owns HO.out (fun _ _ e => e)
        have cA2 := keep_below tq.h _ _ cBw
        clear HBw HO cBw
        generalize tq.w' = w4 at *
        clear tq
        go_wp2_with (at_builtin; refine append_nat rfl _ _ rfl w3.heap.size _ os rfl HO2.out m rfl HLN.out HB2.out.size ?_)
        intro v5 w5 ho5 hb5
        have HO5 : Hid (w5.ownsRow w3.heap.size 3 1 v5 (os ++ [m]).length (ivs (os ++ [m]))) := by show World.ownsRow _ _ _ _ _ _ _; rw [List.length_append]; exact ho5
        have HB5 : Hid (Below w3.heap.size w3 w5) := HB2.out.trans hb5
        clear ho5 hb5 HO2 HB2
        go_wp2_with fail
        go_roundw
        case rel => exact ⟨pa.length, k + 1, _, by omega, by omega, by go_num, by go_num, HM2, HO5, HB5⟩
        case measure => simp [intOf]; omega
    · have HKE : Hid (k = pb.length) := by show _ = _; omega
      by_cases hia : i < pa.length
      · as_aux_lemma =>
        obtain ⟨x, hx⟩ : ∃ x, pa[i]? = some x := ⟨pa[i], List.getElem?_eq_getElem hia⟩
        have cAw := keep_below HBw.out _ _ (HCA.out i x hx)
        have gi : (i : Int) < (pa.length : Int) := by omega
        have hke := HKE.out
        subst hke
        clear HKE hkb hk
        have HM2 : Hid (Mrg ks pa (pb.map (h + ·)) (i + 1) pb.length (os ++ [x])) := HM.out.left HWA.out HWB.out hx (fun y' hy' => by
          have := (List.getElem?_eq_some_iff.1 hy').1
          rw [List.length_map] at this
          omega)
        clear HM hce hx
        go_wp2_with fail
        refine region_ext (by kernel_rfl) (by kernel_rfl) ?_
        repeat (
          with_reducible refine wpQuiet_step (fun K hK => ?_)
          go_simp
          first
            | (with_reducible refine hK _ ?_; clear hK K)
            | (rw [if_neg (by decide)]; with_reducible refine hK _ ?_; clear hK K))
        refine wpQuiet_nil ?_
        rintro _ ⟨tq, rfl⟩
        have HB2 : Hid (Below w3.heap.size w3 tq.w') := HBw.out.trans (tq.h.mono HBw.out.size)
        have HO2 : Hid (tq.w'.ownsRow w3.heap.size 3 1 (.slice ax os.length cx) os.length (ivs os)) := (Kp.of_below (S := fun _ => False) tq.h).owns HO.out (fun _ _ e => e)
        have cA2 := keep_below tq.h _ _ cAw
        clear HBw HO cAw
        generalize tq.w' = w4 at *
        clear tq
        go_wp2_with (at_builtin; refine append_nat rfl _ _ rfl w3.heap.size _ os rfl HO2.out x rfl HLN.out HB2.out.size ?_)
        intro v5 w5 ho5 hb5
        have HO5 : Hid (w5.ownsRow w3.heap.size 3 1 v5 (os ++ [x]).length (ivs (os ++ [x]))) := by show World.ownsRow _ _ _ _ _ _ _; rw [List.length_append]; exact ho5
        have HB5 : Hid (Below w3.heap.size w3 w5) := HB2.out.trans hb5
        clear ho5 hb5 HO2 HB2
        go_wp2_with fail
        go_roundw
        case rel => exact ⟨i + 1, pb.length, _, by omega, by omega, by go_num, by go_num, HM2, HO5, HB5⟩
        case measure => simp [intOf]; omega
      · as_aux_lemma =>
        have gi : ¬ (i : Int) < (pa.length : Int) := by omega
        have gi2 : ¬ i < pa.length := by omega
        have gi3 : decide (i < pa.length) = false := decide_eq_false gi2
        have gi4 : decide ((i : Int) < (pa.length : Int)) = false := decide_eq_false gi
        have gk : ¬ (k : Int) < (pb.length : Int) := by omega
        have HR : Hid (Srp ks ks.length os) := by
          have e1 : i = pa.length := by omega
          have h1 := HM.out
          rw [e1, HKE.out] at h1
          exact h1.done HSA.out HSB.out (by omega)
        have HBZ : Hid (Below w.heap.size w wr) := HB3.out.trans (HBw.out.mono HB3.out.size)
        have HOZ : Hid (wr.ownsRow w.heap.size 3 1 (.slice ax os.length cx) os.length (ivs os)) := own_mono HO.out HB3.out.size
        clear HM hce
        go_wp2_with fail
        go_ret
        exact ⟨_, rfl, os, HR.out, HOZ.out, HBZ.out⟩
theorem orderR_any (ks : List ByteArray) : OrdC ks := by
  have key : ∀ N, ∀ l : List ByteArray, l.length = N → OrdC l := by
    intro N
    induction N using Nat.strongRecOn with
    | _ N ih =>
      intro l hl
      exact order_step l fun m hm => ih m.length (by omega) m rfl
  exact key _ ks rfl
end
section
open Go.RowKit Go
/-- What the reference's Sorted has in hand: its argument's block, the result's, the copy's (g), rows behind it, the order (vl). -/
structure Tus (w wx : World) (g : Nat) (cs : Array Value) (t : Tv) (vy vK vI vl : Value) (ps : List Nat) (kk : List ByteArray) (ms : List Tv) (L : List (Array Value)) : Prop where
  b : Below w.heap.size w wx
  p : wx.heap[w.heap.size]? = some (.cells cs 55 (0, 0))
  r : wx.heap[w.heap.size + 1]? = some (.cells zv 55 (0, 0))
  gg : w.heap.size + 2 ≤ g
  x : wx.heap[g]? = some (.cells (vcs t vy vK vI) 55 (0, 0))
  y : wx.ownsRow (w.heap.size + 2) 5 1 vy t.y.length (bv t.y)
  yg : ∀ q, vy.ownBlock = some q → q < g
  l : wx.ownsRow (g + 1) 3 1 vl ps.length (ivs ps)
  k : wx.ownsRow (g + 1) 9 1 vK kk.length (sv kk)
  o : wx.ownsRow (g + 1) 55 13 vI L.length (vfl L)
  n : L.length = ms.length
  h : ∀ c ∈ L, one13 c
  t : ∀ (j : Nat) (u : Tv) (c : Array Value), ms[j]? = some u → L[j]? = some c → Tis wx (fun q => q ≤ g ∨ vK.ownBlock = some q ∨ vI.ownBlock = some q) u c
theorem own_dis {w : World} {B B' n n' s s' : Nat} {v v' : Value} {e e' : TypeId} {xs ys : List Value} (h : w.ownsRow B e s v n xs) (h' : w.ownsRow B' e' s' v' n' ys) (hne : e ≠ e') (q : Nat) (h1 : v.ownBlock = some q) (h2 : v'.ownBlock = some q) : False := by
  rcases h.2 with ⟨e1, _⟩ | ⟨g1, c1, cur1, e1, _, e2, _⟩
  · rw [e1] at h1
    cases h1
  rcases h'.2 with ⟨e3, _⟩ | ⟨g2, c2, cur2, e3, _, e4, _⟩
  · rw [e3] at h2
    cases h2
  rw [e1] at h1
  rw [e3] at h2
  injection h1 with h1
  injection h2 with h2
  have h1 : g1 = q := h1
  have h2 : g2 = q := h2
  subst h1
  subst h2
  rw [e2] at e4
  injection e4 with e4
  injection e4 with _ e4 _
  exact hne e4
theorem Tus.next {w wx wy : World} {g : Nat} {cs : Array Value} {t : Tv} {vy vK vI vl : Value} {ps : List Nat} {kk : List ByteArray} {ms : List Tv} {L : List (Array Value)} (h : Tus w wx g cs t vy vK vI vl ps kk ms L) (hb : Below wx.heap.size wx wy) : Tus w wy g cs t vy vK vI vl ps kk ms L := by
  have hk : Kp (fun _ => False) wx wy := Kp.of_below hb
  exact ⟨h.b.trans (hb.mono h.b.size), (hb.block _ (blk_lt h.p)).trans h.p, (hb.block _ (blk_lt h.r)).trans h.r, h.gg, (hb.block _ (blk_lt h.x)).trans h.x, hk.owns h.y (fun _ _ e => e), h.yg, hk.owns h.l (fun _ _ e => e), hk.owns h.k (fun _ _ e => e), hk.owns h.o (fun _ _ e => e), h.n, h.h, fun j u c hu hc => (h.t j u c hu hc).kp (Kp.of_below hb)⟩
/-- A key more. -/
theorem Tus.addk {w wx wy : World} {g : Nat} {cs : Array Value} {t : Tv} {vy vK vI vl vK2 : Value} {ps : List Nat} {kk kk2 : List ByteArray} {ms : List Tv} {L : List (Array Value)} (h : Tus w wx g cs t vy vK vI vl ps kk ms L) (ho : wy.ownsRow (g + 1) 9 1 vK2 kk2.length (sv kk2)) (hg : wx.grownBy wy vK.ownBlock) (hq : vK2.ownBlock = vK.ownBlock ∨ vK2.ownBlock = some wx.heap.size) : Tus w (wy.setCell ⟨g, 11, none⟩ vK2) g cs t vy vK2 vI vl ps kk2 ms L := by
  have hk1 : Kp (fun q => vK.ownBlock = some q) wx wy := (Kp.refl _ _).grown hg (fun k _ e => e)
  have hgg := h.gg
  have hlt := fun q hq => h.k.lt q hq
  have hli := fun q hq => h.o.lt q hq
  have hxl := blk_lt h.x
  have hx2 : wy.heap[g]? = some (.cells (vcs t vy vK vI) 55 (0, 0)) := (hk1.block _ hxl (fun e => by have := hlt _ e; omega)).trans h.x
  have hk2 : Kp (fun q => q = g) wy (wy.setCell ⟨g, 11, none⟩ vK2) := (Kp.refl _ _).setCell _ _ (fun _ => rfl)
  have hkA : Kp (fun q => vK.ownBlock = some q ∨ q = g) wx (wy.setCell ⟨g, 11, none⟩ vK2) := (hk1.mono (fun _ _ e => .inl e)).trans hk2 (fun _ _ e => .inr e)
  have hb := h.b.size
  have hl2 := fun q hq => ho.lt q hq
  refine ⟨h.b.trans (hkA.below hb (fun q e => by rcases e with e | e; have := hlt _ e; omega; omega)), ?_, ?_, h.gg, ?_, ?_, h.yg, ?_, ?_, ?_, h.n, h.h, ?_⟩
  · exact (hkA.block _ (blk_lt h.p) (fun e => by rcases e with e | e; have := hlt _ e; omega; omega)).trans h.p
  · exact (hkA.block _ (blk_lt h.r) (fun e => by rcases e with e | e; have := hlt _ e; omega; omega)).trans h.r
  · rw [blk_set 11 _ hx2, setK]
  · exact hkA.owns h.y (fun q hq e => by have h1 := h.yg q hq; rcases e with e | e; have := hlt _ e; omega; omega)
  · exact hkA.owns h.l (fun q hq e => by
      rcases e with e | e
      · exact own_dis h.l h.k (by decide) q hq e
      · have := h.l.lt q hq
        omega)
  · exact hk2.owns ho (fun q hq e => by have := hl2 q hq; omega)
  · refine hkA.owns h.o (fun q hq e => ?_)
    rcases e with e | e
    · exact own_dis h.k h.o (by decide) q e hq
    · have := hli q hq
      omega
  · intro j u c hu hc
    refine ((h.t j u c hu hc).widen.kp (hkA.mono (fun q _ e => ?_))).mono (fun q e => ?_)
    · rcases e with e | e
      · exact .inl (.inr (.inl e))
      · exact .inl (.inl (by omega))
    · rcases e with e | e | e
      · exact .inl (.inl e)
      · rcases hq with e2 | e2
        · exact .inl (.inr (.inl (e2.symm.trans e)))
        · rw [e2] at e
          injection e with e
          exact .inr (by omega)
      · exact .inl (.inr (.inr e))
/-- An item more. -/
theorem Tus.addi {w wx wy : World} {g : Nat} {cs : Array Value} {t : Tv} {vy vK vI vl vI2 : Value} {ps : List Nat} {kk : List ByteArray} {ms : List Tv} {L : List (Array Value)} {u : Tv} {c : Array Value} (h : Tus w wx g cs t vy vK vI vl ps kk ms L) (hc1 : one13 c) (hu : Tis wx (fun q => q ≤ g ∨ vK.ownBlock = some q ∨ vI.ownBlock = some q) u c) (ho : wy.ownsRow (g + 1) 55 13 vI2 (L.length + 1) (vfl L ++ c.toList)) (hg : wx.grownBy wy vI.ownBlock) (hq : vI2.ownBlock = vI.ownBlock ∨ vI2.ownBlock = some wx.heap.size) : Tus w (wy.setCell ⟨g, 12, none⟩ vI2) g cs t vy vK vI2 vl ps kk (ms ++ [u]) (L ++ [c]) := by
  have hk1 : Kp (fun q => vI.ownBlock = some q) wx wy := (Kp.refl _ _).grown hg (fun k _ e => e)
  have hgg := h.gg
  have hlt := fun q hq => h.k.lt q hq
  have hli := fun q hq => h.o.lt q hq
  have hxl := blk_lt h.x
  have hx2 : wy.heap[g]? = some (.cells (vcs t vy vK vI) 55 (0, 0)) := (hk1.block _ hxl (fun e => by have := hli _ e; omega)).trans h.x
  have hk2 : Kp (fun q => q = g) wy (wy.setCell ⟨g, 12, none⟩ vI2) := (Kp.refl _ _).setCell _ _ (fun _ => rfl)
  have hkA : Kp (fun q => vI.ownBlock = some q ∨ q = g) wx (wy.setCell ⟨g, 12, none⟩ vI2) := (hk1.mono (fun _ _ e => .inl e)).trans hk2 (fun _ _ e => .inr e)
  have hb := h.b.size
  have hl2 := fun q hq => ho.lt q hq
  have hT : ∀ (x : Tv) (d : Array Value), Tis wx (fun q => q ≤ g ∨ vK.ownBlock = some q ∨ vI.ownBlock = some q) x d → Tis (wy.setCell ⟨g, 12, none⟩ vI2) (fun q => q ≤ g ∨ vK.ownBlock = some q ∨ vI2.ownBlock = some q) x d := fun x d hx => by
    refine (hx.widen.kp (hkA.mono (fun q _ e => ?_))).mono (fun q e => ?_)
    · rcases e with e | e
      · exact .inl (.inr (.inr e))
      · exact .inl (.inl (by omega))
    · rcases e with e | e | e
      · exact .inl (.inl e)
      · exact .inl (.inr (.inl e))
      · rcases hq with e2 | e2
        · exact .inl (.inr (.inr (e2.symm.trans e)))
        · rw [e2] at e
          injection e with e
          exact .inr (by omega)
  refine ⟨h.b.trans (hkA.below hb (fun q e => by rcases e with e | e; have := hli _ e; omega; omega)), ?_, ?_, h.gg, ?_, ?_, h.yg, ?_, ?_, ?_, by simp [h.n], ?_, ?_⟩
  · exact (hkA.block _ (blk_lt h.p) (fun e => by rcases e with e | e; have := hli _ e; omega; omega)).trans h.p
  · exact (hkA.block _ (blk_lt h.r) (fun e => by rcases e with e | e; have := hli _ e; omega; omega)).trans h.r
  · rw [blk_set 12 _ hx2, setI]
  · exact hkA.owns h.y (fun q hq e => by have h1 := h.yg q hq; rcases e with e | e; have := hli _ e; omega; omega)
  · exact hkA.owns h.l (fun q hq e => by
      rcases e with e | e
      · exact own_dis h.l h.o (by decide) q hq e
      · have := h.l.lt q hq
        omega)
  · refine hkA.owns h.k (fun q hq e => ?_)
    rcases e with e | e
    · exact own_dis h.k h.o (by decide) q hq e
    · have := hlt q hq
      omega
  · have h2 := hk2.owns ho (fun q hq e => by have := hl2 q hq; omega)
    rw [List.length_append, vfl_app]
    have e : vfl [c] = c.toList := by simp [vfl]
    rw [e]
    exact h2
  · intro d hd
    rcases List.mem_append.1 hd with hd | hd
    · exact h.h d hd
    · rw [List.mem_singleton.1 hd]
      exact hc1
  · intro j x d hx hd
    have hn := h.n
    rcases Nat.lt_or_ge j ms.length with h1 | h1
    · rw [List.getElem?_append_left h1] at hx
      rw [List.getElem?_append_left (by omega)] at hd
      exact hT x d (h.t j x d hx hd)
    · rw [List.getElem?_append_right h1] at hx
      rw [List.getElem?_append_right (by omega)] at hd
      have e1 := (List.getElem?_eq_some_iff.1 hx).1
      simp at e1
      have e2 : j - ms.length = 0 := by omega
      have e3 : j - L.length = 0 := by omega
      rw [e2] at hx
      rw [e3] at hd
      simp at hx hd
      rw [← hx, ← hd]
      exact hT u c hu
theorem Tus.tis {w wx wz : World} {g : Nat} {cs : Array Value} {t : Tv} {vy vK vI vl : Value} {ps : List Nat} {kk : List ByteArray} {ms : List Tv} {L : List (Array Value)} (h : Tus w wx g cs t vy vK vI vl ps kk ms L) (hb : Tbd t) (hyb : ∀ x ∈ t.y, x < 256) (hkp : Kp (fun q => q = w.heap.size + 1) wx wz) (hkz : ∀ s ∈ kk, s.size ≤ 140737488351232) (hkl : kk.length ≤ 140737488351232) (hml : ms.length ≤ 140737488351232) : Tis wz (fun q => q < w.heap.size) (Tv.mk t.k t.f t.g t.n t.b t.s t.y t.l kk ms) (vcs t vy vK vI) := by
  have hz := h.b.size
  have hgg := h.gg
  have hyz := hkp.owns h.y (fun q hq e => by have := h.y.lt q hq; omega)
  have hkz2 := hkp.owns h.k (fun q hq e => by have := h.k.lt q hq; omega)
  have hoz := hkp.owns h.o (fun q hq e => by have := h.o.lt q hq; omega)
  have hn := h.n
  have hbig : ∀ c ∈ L, c.size = 13 := fun c hc => (h.h c hc).1
  obtain ⟨a, cap, hvI, hcap, hform⟩ : ∃ a cap, vI = .slice a ms.length cap ∧ (ms.length ≤ cap ∧ (a = none → cap = 0)) ∧ (ms = [] ∨ ∃ b off, a = some ⟨b, off, none⟩ ∧ ¬ b < w.heap.size ∧ ∀ i, i < ms.length → ∀ j u, (L.getD i #[])[j]? = some u → wz.cell? ⟨b, off + i * 13 + j, none⟩ = some u) := by
    rcases id hoz.2 with ⟨e, h0⟩ | ⟨g', cap, cur, e, _, _, h1, _⟩
    · have e2 : ms = [] := List.length_eq_zero_iff.1 (by omega)
      subst e2
      exact ⟨none, 0, e, ⟨by simp, fun _ => rfl⟩, .inl rfl⟩
    · refine ⟨_, cap, by rw [e, hn], ⟨by omega, fun h => by cases h⟩, .inr ⟨g', 0, rfl, fun hs => ?_, fun i hi j u hu => ?_⟩⟩
      · have h2 := hoz.lt g' (by rw [e]; rfl)
        omega
      · rw [Nat.zero_add]
        have hc : L[i]? = some (L[i]'(by omega)) := List.getElem?_eq_getElem (by omega)
        have hoz2 := hoz
        rw [e] at hoz2
        refine own_val hoz2 hbig hc j u ?_
        rw [List.getD_eq_getElem?_getD, hc] at hu
        exact hu
  refine Tis.mk (Tv.mk t.k t.f t.g t.n t.b t.s t.y t.l kk ms) vy vK vI ⟨hb.n, hb.b, hb.s, hb.y, hb.l, hb.d⟩ (BSl.own hyz hyb) (fun _ q hq hs => by have := hyz.lt q hq; omega) (SSl.own hkz2 rfl hkl hkz) (fun _ q hq hs => by have := h.k.lt q hq; omega) (fun i => L.getD i #[]) a cap hvI hcap hml (fun i u hu => ?_) hform
  have hil := (List.getElem?_eq_some_iff.1 hu).1
  have hil2 : i < ms.length := hil
  have hc : L[i]? = some (L[i]'(by omega)) := List.getElem?_eq_getElem (by omega)
  have h1 := (h.t i u _ hu hc).kp (hkp.mono (fun q _ e => .inl (by omega)))
  have h2 := h1.mono (fun q (e : q < w.heap.size) => .inl (by omega))
  rw [List.getD_eq_getElem?_getD, hc]
  exact h2
end
end Go.Proofs.YtgcccndbahphaaaGreatDoor
