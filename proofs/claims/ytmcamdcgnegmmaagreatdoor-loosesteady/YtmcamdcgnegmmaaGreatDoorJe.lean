import Derived.Test.YtmcamdcgnegmmaaGreatDoorJd
import Derived.Test.YtmcamdcgnegmmaaGreatDoorJa
import Derived.Great.BuildSlice
import Derived.Great.FillDense
import Derived.Maps.AppendAt
import Derived.Test.YtmcamdcgnegmmaaGreatDoorJb
import Derived.Test.YtmcamdcgnegmmaaGreatDoorSlav
import Derived.Laws.ResultCell
set_option maxRecDepth 1000000
set_option maxHeartbeats 16000000
namespace Go.Proofs.YtmcamdcgnegmmaaGreatDoor
section
open Go.RowKit Go
def sv (ks : List ByteArray) : List Value := ks.map fun s => .string s
theorem sv_len (ks : List ByteArray) : (sv ks).length = ks.length := by simp [sv]
theorem sv_app (a b : List ByteArray) : sv (a ++ b) = sv a ++ sv b := by simp [sv]
theorem sv_get {ks : List ByteArray} {j : Nat} {s : ByteArray} (h : ks[j]? = some s) : (sv ks)[j]? = some (.string s) := by simp [sv, h]
theorem sv_one (ks : List ByteArray) : ∀ u ∈ sv ks, u.oneCell' = true := by
  intro u hu
  simp only [sv, List.mem_map] at hu
  obtain ⟨_, _, rfl⟩ := hu
  rfl
theorem info9_ex : ∃ i, Tryz.prog.info? 9 = some i ∧ i.zero = some (.string ⟨#[]⟩) ∧ i.size = 1 ∧ i.bytes = 16 := by
  have h : (Tryz.prog.info? 9).map (fun i => (i.zero, i.size, i.bytes)) = some (some (.string ⟨#[]⟩), 1, 16) := by kernel_rfl
  cases hi : Tryz.prog.info? 9 with
  | none => rw [hi] at h; cases h
  | some i =>
    rw [hi] at h
    injection h with h
    injection h with h1 h2
    injection h2 with h2 h3
    exact ⟨i, rfl, h1, h2, h3⟩
theorem append_ssl {ops : Array Oper} {rest : List Oper} {o : Oper} {a : Act} {Q : Exit → Act → World → Prop} {w : World} (hgd : o.guard = none) (s x : Operand)
    (ho : o.op = .call { callee := .builtin .append, args := #[s, x], argTypes := #[38, 38] }) (B : Nat) (v : Value) (n : Nat) (ds : List ByteArray) (hs : a.eval s = v) (hown : w.ownsRow B 9 1 v n (sv ds))
    (u : Value) (es : List ByteArray) (hx : a.eval x = u) (hu : SSl w u es) (hlen : n + es.length < 1099511627776) (hbase : B ≤ w.heap.size)
    (h : ∀ v' w', w'.ownsRow B 9 1 v' (n + es.length) (sv (ds ++ es)) → w.grownBy w' v.ownBlock → wpList Tryz.prog ops Q rest (a.put o.dst v') w') : wpList Tryz.prog ops Q (o :: rest) a w := by
  obtain ⟨i, hi, hz0, hz1, hz2⟩ := info9_ex
  obtain ⟨⟨ad, cap, rfl, hn, hc⟩, hmax, _⟩ := hu
  cases ad with
  | none =>
    have hc0 := hn.2 rfl
    have he : es = [] := List.length_eq_zero_iff.1 (by omega)
    subst hc0
    subst he
    refine wpList_append_own_none hgd s x 38 ho B 9 i 1 Tryz.underlying38 hi v n (sv ds) hs hown hx (h v w ?_ ⟨rfl, rfl, rfl, Nat.le_refl _, fun _ _ _ => rfl⟩)
    simpa using hown
  | some ad =>
    refine wpList_append_own_at w hgd s x 38 ho B 9 i (.string ⟨#[]⟩) 1 16 Tryz.underlying38 hi hz0 hz1 hz2 rfl (by decide) v n (sv ds) hs hown ad es.length cap (sv es) hx (by rw [sv_len, Nat.mul_one]) (fun j u hu => ?_) (sv_one es) (by unfold maxLen; omega) (by omega) hbase fun v' w' h1 h2 _ _ => h v' w' (by rw [sv_app]; exact h1) h2
    have hjl : j < es.length := by
      rcases Nat.lt_or_ge j es.length with h | h
      · exact h
      · rw [List.getElem?_eq_none (by rw [sv_len]; exact h)] at hu
        cases hu
    rcases hc with hc | ⟨b, off, e, hc⟩
    · rw [hc] at hjl
      simp at hjl
    · injection e with e
      subst e
      rw [sv_get (List.getElem?_eq_getElem hjl)] at hu
      injection hu with hu
      rw [addr_add, hc j _ (List.getElem?_eq_getElem hjl), hu]
end
section
open Go.RowKit Go

end
section
open Go.RowKit Go
def vfl (l : List (Array Value)) : List Value := l.flatMap (·.toList)
theorem vfl_app (a b : List (Array Value)) : vfl (a ++ b) = vfl a ++ vfl b := by simp [vfl]
theorem vfl_len : ∀ {l : List (Array Value)}, (∀ c ∈ l, c.size = 13) → (vfl l).length = l.length * 13
  | [], _ => rfl
  | c :: l, h => by
    have h1 := vfl_len (l := l) (fun d hd => h d (List.mem_cons_of_mem _ hd))
    have h2 := h c (List.mem_cons_self ..)
    have e : vfl (c :: l) = c.toList ++ vfl l := by simp [vfl]
    rw [e, List.length_append, h1, List.length_cons, Array.length_toList, h2]
    omega
theorem vfl_get : ∀ {l : List (Array Value)}, (∀ c ∈ l, c.size = 13) → ∀ (k : Nat) (c : Array Value) (j : Nat) (u : Value), l[k]? = some c → c[j]? = some u → (vfl l)[k * 13 + j]? = some u
  | [], _, k, c, j, u, h, _ => by simp at h
  | d :: l, hs, 0, c, j, u, h, hu => by
    simp at h
    subst h
    have e : vfl (d :: l) = d.toList ++ vfl l := by simp [vfl]
    have hj : j < d.size := (Array.getElem?_eq_some_iff.1 hu).1
    rw [e, List.getElem?_append_left (by simpa using hj)]
    simpa using hu
  | d :: l, hs, k + 1, c, j, u, h, hu => by
    simp at h
    have e : vfl (d :: l) = d.toList ++ vfl l := by simp [vfl]
    have h13 : d.toList.length = 13 := by rw [Array.length_toList]; exact hs d (List.mem_cons_self ..)
    rw [e, List.getElem?_append_right (by omega)]
    have e2 : (k + 1) * 13 + j - d.toList.length = k * 13 + j := by omega
    rw [e2]
    exact vfl_get (fun d hd => hs d (List.mem_cons_of_mem _ hd)) k c j u h hu
def zv : Array Value := #[.int .i64 0, .bool false, .bool false, .int .u64 0, .int .u64 0, .string ⟨#[]⟩, .slice none 0 0, .int .i64 0, .int .u64 0, .int .u64 0, .string ⟨#[]⟩, .slice none 0 0, .slice none 0 0]
theorem infoV_ex : ∃ i, Tryz.prog.info? 41 = some i ∧ i.zero = some (.agg zv) ∧ i.size = 13 ∧ i.bytes = 160 := by
  have h : (Tryz.prog.info? 41).map (fun i => (i.zero, i.size, i.bytes)) = some (some (.agg zv), 13, 160) := by kernel_rfl
  cases hi : Tryz.prog.info? 41 with
  | none => rw [hi] at h; cases h
  | some i =>
    rw [hi] at h
    injection h with h
    injection h with h1 h2
    injection h2 with h2 h3
    exact ⟨i, rfl, h1, h2, h3⟩
def one13 (c : Array Value) : Prop := c.size = 13 ∧ ∀ u ∈ c.toList, u.oneCell' = true
theorem fill_one (c cells : Array Value) (h : c.size = 13) (hc : cells.size = 13) : Instr.fill (fun i => some (i * 13, 13)) cells [(0, .agg c)] = some c := by
  obtain ⟨r, hr, hsz, hk⟩ := Great.fill_dense (s := 13) (by decide) [.agg c] 0 cells (by
    intro v hv
    simp only [List.mem_singleton] at hv
    subst hv
    simpa [Value.cells] using h) (by simp; omega)
  have e : r = c := by
    apply Array.ext_getElem?
    intro k
    rw [hk k]
    by_cases h1 : k < 13
    · rw [if_pos ⟨by omega, by simp; omega⟩]
      simp [Value.cells, Nat.div_eq_of_lt h1, Nat.mod_eq_of_lt h1]
    · rw [if_neg (by simp; omega), Array.getElem?_eq_none (by omega), Array.getElem?_eq_none (by omega)]
  rw [e] at hr
  exact hr
theorem wpList_val1 {ops : Array Oper} {rest : List Oper} {o : Oper} {a : Act} {w : World} {Q : Exit → Act → World → Prop} {x0 : Operand} (hg : o.guard = none) (ho : o.op = .buildSlice 39 1 #[(0, x0)]) (c : Array Value) (hc : c.size = 13)
    (h0 : a.eval x0 = .agg c)
    (h : wpList Tryz.prog ops Q rest (a.put o.dst (.slice (some ⟨w.heap.size, 0, none⟩) 1 1)) (w.alloc (.cells c 41))) : wpList Tryz.prog ops Q (o :: rest) a w := by
  obtain ⟨i, hi, hz, hs, _⟩ := infoV_ex
  refine wpList_buildSlice hg 39 41 1 _ ho c i _ Tryz.underlying39 hi hz (by rw [hs]; decide) (by rw [hs]; decide) ?_ h
  rw [hs]
  have e : ((#[(0, x0)] : Array (Nat × Operand)).map fun (i, x) => (i, a.eval x)).toList = [(0, .agg c)] := by simp [h0]
  rw [e]
  exact fill_one c _ hc (by simp)
theorem append_val {ops : Array Oper} {rest : List Oper} {o : Oper} {a : Act} {Q : Exit → Act → World → Prop} {w : World} (hgd : o.guard = none) (s x : Operand)
    (ho : o.op = .call { callee := .builtin .append, args := #[s, x], argTypes := #[39, 39] }) (B : Nat) (v : Value) (n : Nat) (ds : List Value) (hs : a.eval s = v) (hown : w.ownsRow B 41 13 v n ds)
    (g : Nat) (c : Array Value) (h13 : one13 c) (hx : a.eval x = .slice (some ⟨g, 0, none⟩) 1 1) (hg : w.heap[g]? = some (.cells c 41 (0, 0))) (hlen : n < 1099511627) (hbase : B ≤ w.heap.size)
    (h : ∀ v' w', w'.ownsRow B 41 13 v' (n + 1) (ds ++ c.toList) → w.grownBy w' v.ownBlock → (v'.ownBlock = v.ownBlock ∨ v'.ownBlock = some w.heap.size) → wpList Tryz.prog ops Q rest (a.put o.dst v') w') : wpList Tryz.prog ops Q (o :: rest) a w := by
  obtain ⟨i, hi, hz0, hz1, hz2⟩ := infoV_ex
  refine wpList_append_own_at w hgd s x 39 ho B 41 i _ 13 160 Tryz.underlying39 hi hz0 hz1 hz2 rfl (by decide) v n ds hs hown ⟨g, 0, none⟩ 1 1 c.toList hx (by rw [Array.length_toList, h13.1]) (fun j u hu => ?_) h13.2 (by unfold maxLen; omega) (by omega) hbase fun v' w' h1 h2 _ h4 => h v' w' h1 h2 ?_
  · have hadd : (⟨g, 0, none⟩ : Addr).add j = ⟨g, j, none⟩ := by unfold Addr.add; split <;> simp_all
    rw [hadd]
    exact blk_cell hg (by simpa using hu)
  · exact h4
theorem own_val {w : World} {B g n m cap k : Nat} {l : List (Array Value)} {c : Array Value} (h : w.ownsRow B 41 13 (.slice (some ⟨g, 0, none⟩) m cap) n (vfl l)) (hl : ∀ c ∈ l, c.size = 13) (hk : l[k]? = some c) : ∀ j u, c[j]? = some u → w.cell? ⟨g, k * 13 + j, none⟩ = some u := fun j u hu => by
  have := h.cells (g := g) rfl (k * 13 + j) u (vfl_get hl k c j u hk hu)
  have hadd : (⟨g, 0, none⟩ : Addr).add (k * 13 + j) = ⟨g, k * 13 + j, none⟩ := by unfold Addr.add; split <;> simp_all
  rw [hadd] at this
  exact this
end
section
open Go.RowKit Go
theorem exec_valAt {o : Oper} {a : Act} {p : Operand} {g off : Nat} {cs : Array Value} {w : World} (ho : o.op = .load 41 p) (hp : a.eval p = .pointer (some ⟨g, off, none⟩)) (hn : cs.size = 13) (hc : ∀ j u, cs[j]? = some u → w.cell? ⟨g, off + j, none⟩ = some u) : (execOp a.eval o).run Tryz.prog w = .ok (.value (.agg cs)) w := by
  unfold execOp
  have hr := load_val (w := w) g off cs hn hc
  simp only [ho, Sem.run_bind, hp, hr, Result.andThen_ok]
  rfl
theorem wp_storeRow {o : Oper} {a : Act} {K : Act → World → Prop} {Q : Exit → Act → World → Prop} {w : World} {T : TypeId} {p x : Operand} (ho : o.op = .store T p x) (g : Nat) (old cs : Array Value) (t : TypeId)
    (hp : a.eval p = .pointer (some ⟨g, 0, none⟩)) (hx : a.eval x = .agg cs) (hg : w.heap[g]? = some (.cells old t (0, 0))) (hi : (Tryz.prog.info? T).map (·.size) = some cs.size) (hn : old.size = cs.size) (h1 : cs.all (·.oneCell') = true)
    (h : K (a.put o.dst undef) (w.setRow g cs)) : Oper.wp Tryz.prog o a w K Q := by
  unfold Oper.wp execOp
  have hr : (Instr.storeAt T (.pointer (some ⟨g, 0, none⟩)) (.agg cs)).run Tryz.prog w = .ok () (w.setRow g cs) := by
    simp only [Instr.storeAt, Instr.sureAddr, Sem.run_bind, Sem.run_pure, Result.andThen]
    exact run_storeVar_row (P := Tryz.prog) w g t T old cs hg hi hn h1
  simp only [ho, Sem.run_bind, hp, hx, hr, Result.andThen_ok]
  exact h
theorem step_storeRow {ops : Array Oper} {o : Oper} {a : Act} {K : Act → World → Prop} {Q : Exit → Act → World → Prop} {w : World} {T : TypeId} {p x : Operand} (hw : Region.wanted o (yielded ops a.tmps) = true) (ho : o.op = .store T p x) (g : Nat) (old cs : Array Value) (t : TypeId)
    (hp : a.eval p = .pointer (some ⟨g, 0, none⟩)) (hx : a.eval x = .agg cs) (hg : w.heap[g]? = some (.cells old t (0, 0))) (hi : (Tryz.prog.info? T).map (·.size) = some cs.size) (hn : old.size = cs.size) (h1 : cs.all (·.oneCell') = true)
    (h : K (a.put o.dst undef) (w.setRow g cs)) : if Region.wanted o (yielded ops a.tmps) = true then Oper.wp Tryz.prog o a w K Q else K (a.put o.dst undef) w := by
  rw [if_pos hw]
  exact wp_storeRow ho g old cs t hp hx hg hi hn h1 h
end
section
open Go.RowKit Go
theorem eachPart9c_one {σ : Type} {fn : FuncId} {caps : List Value} {N0 : Nat} {cl : World → σ → (Nat → Prop) → Prop} {st : σ → Nat → List Nat → σ} {sz : σ → Nat} (hC : Clo fn caps N0 cl st sz) {w : World} {g : Nat} {v : Value} {b : List Nat} {dp p op : Nat} {vn : Value} {ns : List (Nat × Nat)} {D0 : Nat → Prop} {s : σ} (hI : Itp w N0 g v b dp p op vn ns) (hq : ∀ x ∈ b, x < 256) (hT : cl w s D0) (h : HR) (J : Nat) (hJ : b.length + 1 ≤ J) (hm : h.m = 2 ∨ h.m = 3) (h31 : h.i ≠ 31) (hd : Hdo b dp op (h, p)) (hu : h.u ≤ p) (hn : ns.length + 2 * (b.length - p) ≤ 999990) (hx : sz s + (b.length - p) ≤ 140737488351232) : Calls Tryz.prog 40 #[.pointer (some ⟨g, 0, none⟩), h.val, .func (.func fn) #[] caps.toArray] w (EpC w N0 g v b dp op vn cl D0 (lallg st b dp J op p h s ns)) := by
  obtain ⟨LS, hLS⟩ : ∃ LS, LS = lallg st b dp J op p h s ns := ⟨_, rfl⟩
  rw [← hLS]
  have HT : Hid (ltel h = true → p + h.n ≤ b.length) := hd.t
  obtain ⟨hm', hi, hn', hu', hs, he⟩ := h
  replace h31 : hi ≠ 31 := h31
  have HMJ : Hid (hm' = 2 ∨ hm' = 3) := hm
  have HLS : Hid (LS = if hi = 31 then lprtg st b dp hm' op J p s ns else .ok (st s (p - hu') ((b.drop p).take hn'), ns, p + hn')) := hLS
  have HTT : Hid (hi ≠ 31 → p + hn' ≤ b.length) := fun h31 => HT.out (by unfold ltel; rcases HMJ.out with e | e <;> simp [e, h31])
  have HUP : Hid (hu' ≤ p) := hu
  have HCC := hide hC
  have HQ : Hid (∀ i n, ∀ x ∈ (b.drop i).take n, x < 256) := fun i n x hx => hq x (List.mem_of_mem_drop (List.mem_of_mem_take hx))
  have HEN : ∀ args wx, (callFunc fn args).run Tryz.prog wx = .ok (.enter fn args) wx := hC.enter
  have HN0 : Hid (N0 ≤ w.heap.size) := by have h1 := hI.g; have h2 := blk_lt hI.r.blk; show _ ≤ _; omega
  have hba := below_alloc4 w (.cells #[.int .i64 (hm' : Nat), .int .i64 (hi : Nat), .int .u64 (hn' : Nat), .int .i64 (hu' : Nat), .bool hs] 66)
  have HO0 := hide ((Opc.start hI hT).itg hC (hI.next hba))
  have HH0 := hide (heap_alloc_new w (.cells #[.int .i64 (hm' : Nat), .int .i64 (hi : Nat), .int .u64 (hn' : Nat), .int .i64 (hu' : Nat), .bool hs] 66))
  have HBL := hide hI.r.hb
  have HPB := hide hI.r.hp
  have HNN := hide hn
  have HXN := hide hx
  have HJJ := hide hJ
  simp only [HR.val]
  clear hI hq hT hLS hm hd hu hn hx hba HT hJ hC
  go_enter Tryz.func40, Tryz.ntmps40
  go_upto_region 1 with fail
  generalize hW0 : (w.alloc (.cells #[.int .i64 (hm' : Nat), .int .i64 (hi : Nat), .int .u64 (hn' : Nat), .int .i64 (hu' : Nat), .bool hs] 66)) = w0 at *
  have HZ0 : Hid (w.heap.size < w0.heap.size) := by rw [← hW0]; show _ < _; simp
  clear hW0
  have d1 : w0.cell? ⟨w.heap.size, 1, none⟩ = some (.int .i64 (hi : Nat)) := blk_cell (j := 1) HH0.out rfl
  have g1 : ((hi : Int) != 31) = true := by rw [bne_iff_ne]; omega
  obtain ⟨m2, hm2⟩ : ∃ m2, m2 = p - hu' := ⟨_, rfl⟩
  have HL : Hid (LS = .ok (st s m2 ((b.drop p).take hn'), ns, p + hn')) := by show _ = _; rw [HLS.out, if_neg h31, hm2]
  have HPN : Hid (p + hn' ≤ b.length) := HTT.out h31
  clear h31 HLS HTT
  have k3 : (p : Int) - (hu' : Int) = (m2 : Int) := by have := HUP.out; omega
  have k4 : wrap64 (m2 : Int) = (m2 : Int) := by have h1 := HBL.out; have h2 := HPB.out; unfold wrap64; omega
  have k5 : IntKind.i64.wrap (m2 : Int) = (m2 : Int) := by rw [IntKind.wrap_i64]; have h1 := HBL.out; have h2 := HPB.out; omega
  clear hm2
  go_upto_region 2 with fail
  have x1 : ∀ t' : Ext w0, t'.w'.cell? ⟨g, 1, none⟩ = some (.int .i64 (p : Nat)) := fun t' => keep_below t'.h _ _ (blk_cell HO0.out.i.r.blk (rcl_1 HO0.out.i.r.z))
  have x3 : ∀ t' : Ext w0, t'.w'.cell? ⟨w.heap.size, 3, none⟩ = some (.int .i64 (hu' : Nat)) := fun t' => keep_below t'.h _ _ (blk_cell (j := 3) HH0.out rfl)
  refine region_ext (by kernel_rfl) (by kernel_rfl) ?_
  with_reducible refine wpQuiet_step (fun K hK => ?_)
  go_simp
  with_reducible refine hK _ ?_
  clear hK K
  with_reducible refine wpQuiet_step (fun K hK => ?_)
  go_simp
  with_reducible refine hK _ ?_
  clear hK K
  with_reducible refine wpQuiet_step (fun K hK => ?_)
  go_simp
  with_reducible refine hK _ ?_
  clear hK K
  with_reducible refine wpQuiet_step (fun K hK => ?_)
  go_simp
  with_reducible refine hK _ ?_
  clear hK K
  with_reducible refine wpQuiet_step (fun K hK => ?_)
  go_simp
  with_reducible refine hK _ ?_
  clear hK K
  with_reducible refine wpQuiet_step (fun K hK => ?_)
  go_simp
  with_reducible refine hK _ ?_
  clear hK K
  with_reducible refine wpQuiet_step (fun K hK => ?_)
  go_simp
  with_reducible refine hK _ ?_
  clear hK K
  with_reducible refine wpQuiet_step (fun K hK => ?_)
  go_simp
  with_reducible refine hK _ ?_
  clear hK K
  with_reducible refine wpQuiet_step (fun K hK => ?_)
  go_simp
  with_reducible refine hK _ ?_
  clear hK K
  refine wpQuiet_nil ?_
  rintro wx ⟨t2, rfl⟩
  have HO1 := hide (HO0.out.itg HCC.out (HO0.out.i.next t2.h))
  have HH1 := hide (HO0.out.kept HH0.out (HO0.out.i.next t2.h))
  clear x1 x3 d1 HO0 HH0
  go_upto_region 3 with fail
  generalize t2.w' = w1 at *
  refine heldStart (S := fun wy => wy.heap[w.heap.size]? = some (.cells #[.int .i64 (hm' : Nat), .int .i64 (hi : Nat), .int .u64 (hn' : Nat), .int .i64 (hu' : Nat), .bool hs] 66 (0, 0))) (by kernel_rfl) ?_
  have hbd : Below w1.heap.size w1 w1.drew := by
    refine Below.drew ?_
    exact Below.refl _ _
  have hS := HO1.out.kept HH1.out (HO1.out.i.next hbd)
  have HO2 := hide (HO1.out.itg HCC.out (HO1.out.i.next hbd))
  clear hbd HO1 HH1
  generalize w1.drew = w2 at *
  refine heldTake 0 _ rfl (by kernel_rfl) (by kernel_rfl) (by kernel_rfl) (fun _ _ _ h => h) rfl hS (fun wy hy => by first | (go_simp; done) | (go_simp; rfl) | rfl) ?_
  (try simp only [Act.put]); (try simp only [LsA, Ls0, LsS])
  refine heldTake 1 _ rfl (by kernel_rfl) (by kernel_rfl) (by kernel_rfl) (fun _ _ _ h => h) rfl hS (fun wy hy => by first | (go_simp; done) | (go_simp; rfl) | rfl) ?_
  (try simp only [Act.put]); (try simp only [LsA, Ls0, LsS])
  refine heldTake 2 _ rfl (by kernel_rfl) (by kernel_rfl) (by kernel_rfl) (fun _ _ _ h => h) rfl hS (fun wy hy => by first | (go_simp; done) | (go_simp; rfl) | rfl) ?_
  (try simp only [Act.put]); (try simp only [LsA, Ls0, LsS])
  refine heldTake 3 _ rfl (by kernel_rfl) (by kernel_rfl) (by kernel_rfl) (fun _ _ _ h => h) rfl hS (fun wy hy => by first | (go_simp; done) | (go_simp; rfl) | rfl) ?_
  (try simp only [Act.put]); (try simp only [LsA, Ls0, LsS])
  refine heldTake 4 _ rfl (by kernel_rfl) (by kernel_rfl) (by kernel_rfl) (fun _ _ _ h => h) rfl hS (fun wy hy => by first | (go_simp; done) | (go_simp; rfl) | rfl) ?_
  (try simp only [Act.put]); (try simp only [LsA, Ls0, LsS])
  refine heldTake 5 _ rfl (by kernel_rfl) (by kernel_rfl) (by kernel_rfl) (fun _ _ _ h => h) rfl hS (fun wy hy => by first | (go_simp; done) | (go_simp; rfl) | rfl) ?_
  (try simp only [Act.put]); (try simp only [LsA, Ls0, LsS])
  refine heldTake 6 _ rfl (by kernel_rfl) (by kernel_rfl) (by kernel_rfl) (fun _ _ _ h => h) rfl hS (fun wy hy => by have h0 : wy.cell? ⟨w.heap.size, 2, none⟩ = some (.int .u64 (hn' : Nat)) := blk_cell (j := 2) hy rfl; first | (go_simp; done) | (go_simp; rfl) | rfl) ?_
  (try simp only [Act.put]); (try simp only [LsA, Ls0, LsS])
  refine heldStep 7 rfl (by kernel_rfl) (fun K1 hK1 => ?_)
  go_simp
  refine (take9_any HO2.out.i.r hn' HPN.out).mono ?_
  rintro e w3 ⟨ap, np, cp, rfl, hbp, hr3, hk3⟩
  have h33 := HO2.out.i.rdr hr3 hk3
  have hS1 := HO2.out.kept hS h33
  have HO3 := hide (HO2.out.itg HCC.out h33)
  have HBP := hide (hbp w3 (Kp.refl _ _))
  refine (Hid.out hK1) _ _ hS1 (fun hS2 => ?_)
  clear hK1 K1 hS
  have hS := hS2
  clear hS2
  (try simp only [Act.put]); (try simp only [LsA, Ls0, LsS])
  clear hS1 h33 hbp hr3 hk3 HO2
  refine heldStep 8 rfl (by kernel_rfl) (fun K1 hK1 => ?_)
  go_simp
  refine (HCC.out.call m2 HO3.out.t HBP.out (HQ.out _ _) (by rw [List.length_take, List.length_drop]; have h1 := HXN.out; have h2 := HPN.out; omega)).mono ?_
  rintro e w4 ⟨rfl, hP⟩
  obtain ⟨D', h41, h42, h43⟩ := hP.out
  have hS1 := HO3.out.keptG HCC.out hS h42
  have HO4 := hide (HO3.out.gat HCC.out h41 h42 h43)
  refine (Hid.out hK1) _ _ hS1 (fun hS2 => ?_)
  clear hK1 K1 hS
  have hS := hS2
  clear hS2
  (try simp only [Act.put]); (try simp only [LsA, Ls0, LsS])
  clear hS1 h41 h42 h43 hP HO3
  refine heldDone (by kernel_rfl) ?_
  clear hS
  go_wp2_with fail
  exact bodyPost_ret (results_none rfl _ _ _) rfl (.inl ⟨_, _, _, HL.out, rfl, HO4.out⟩)
end
section
open Go.RowKit Go
theorem eachPart9c_many {σ : Type} {fn : FuncId} {caps : List Value} {N0 : Nat} {cl : World → σ → (Nat → Prop) → Prop} {st : σ → Nat → List Nat → σ} {sz : σ → Nat} (hC : Clo fn caps N0 cl st sz) {w : World} {g : Nat} {v : Value} {b : List Nat} {dp p op : Nat} {vn : Value} {ns : List (Nat × Nat)} {D0 : Nat → Prop} {s : σ} (hI : Itp w N0 g v b dp p op vn ns) (hq : ∀ x ∈ b, x < 256) (hT : cl w s D0) (h : HR) (J : Nat) (hJ : b.length + 1 ≤ J) (hm : h.m = 2 ∨ h.m = 3) (h31 : h.i = 31) (hd : Hdo b dp op (h, p)) (hu : h.u ≤ p) (hn : ns.length + 2 * (b.length - p) ≤ 999990) (hx : sz s + (b.length - p) ≤ 140737488351232) : Calls Tryz.prog 40 #[.pointer (some ⟨g, 0, none⟩), h.val, .func (.func fn) #[] caps.toArray] w (EpC w N0 g v b dp op vn cl D0 (lallg st b dp J op p h s ns)) := by
  obtain ⟨LS, hLS⟩ : ∃ LS, LS = lallg st b dp J op p h s ns := ⟨_, rfl⟩
  rw [← hLS]
  have HT : Hid (ltel h = true → p + h.n ≤ b.length) := hd.t
  obtain ⟨hm', hi, hn', hu', hs, he⟩ := h
  replace h31 : hi = 31 := h31
  have H31 := hide h31
  clear h31
  have HMJ : Hid (hm' = 2 ∨ hm' = 3) := hm
  have HLS : Hid (LS = if hi = 31 then lprtg st b dp hm' op J p s ns else .ok (st s (p - hu') ((b.drop p).take hn'), ns, p + hn')) := hLS
  have HTT : Hid (hi ≠ 31 → p + hn' ≤ b.length) := fun h31 => HT.out (by unfold ltel; rcases HMJ.out with e | e <;> simp [e, h31])
  have HUP : Hid (hu' ≤ p) := hu
  have HCC := hide hC
  have HQ : Hid (∀ i n, ∀ x ∈ (b.drop i).take n, x < 256) := fun i n x hx => hq x (List.mem_of_mem_drop (List.mem_of_mem_take hx))
  have HEN : ∀ args wx, (callFunc fn args).run Tryz.prog wx = .ok (.enter fn args) wx := hC.enter
  have HN0 : Hid (N0 ≤ w.heap.size) := by have h1 := hI.g; have h2 := blk_lt hI.r.blk; show _ ≤ _; omega
  have hba := below_alloc4 w (.cells #[.int .i64 (hm' : Nat), .int .i64 (hi : Nat), .int .u64 (hn' : Nat), .int .i64 (hu' : Nat), .bool hs] 66)
  have HO0 := hide ((Opc.start hI hT).itg hC (hI.next hba))
  have HH0 := hide (heap_alloc_new w (.cells #[.int .i64 (hm' : Nat), .int .i64 (hi : Nat), .int .u64 (hn' : Nat), .int .i64 (hu' : Nat), .bool hs] 66))
  have HBL := hide hI.r.hb
  have HPB := hide hI.r.hp
  have HNN := hide hn
  have HXN := hide hx
  have HJJ := hide hJ
  simp only [HR.val]
  clear hI hq hT hLS hm hd hu hn hx hba HT hJ hC
  go_enter Tryz.func40, Tryz.ntmps40
  go_upto_region 1 with fail
  generalize hW0 : (w.alloc (.cells #[.int .i64 (hm' : Nat), .int .i64 (hi : Nat), .int .u64 (hn' : Nat), .int .i64 (hu' : Nat), .bool hs] 66)) = w0 at *
  have HZ0 : Hid (w.heap.size < w0.heap.size) := by rw [← hW0]; show _ < _; simp
  clear hW0
  have d1 : w0.cell? ⟨w.heap.size, 1, none⟩ = some (.int .i64 (hi : Nat)) := blk_cell (j := 1) HH0.out rfl
  have g1 : ((hi : Int) != 31) = false := by rw [bne_eq_false_iff_eq]; have := H31.out; omega
  have HL : Hid (LS = lprtg st b dp hm' op J p s ns) := by show _ = _; rw [HLS.out, if_pos H31.out]
  have HX0 : Hid (∃ j q s' ms vx D, Opc w w0 N0 g v b dp q op vn vx ms cl D0 D s' ∧ w0.heap[w.heap.size]? = some (.cells #[.int .i64 (hm' : Nat), .int .i64 (hi : Nat), .int .u64 (hn' : Nat), .int .i64 (hu' : Nat), .bool hs] 66 (0, 0)) ∧ LS = lprtg st b dp hm' op j q s' ms ∧ b.length + 1 ≤ q + j ∧ ms.length + 2 * (b.length - q) ≤ 999990 ∧ sz s' + (b.length - q) ≤ 140737488351232) := ⟨J, p, s, ns, _, _, HO0.out, HH0.out, HL.out, by have := HJJ.out; omega, HNN.out, HXN.out⟩
  clear HLS HTT HO0 HH0 HL
  go_wp2_with fail
  go_loopw [] (fun wx => Hid (∃ j q s' ms vx D, Opc w wx N0 g v b dp q op vn vx ms cl D0 D s' ∧ wx.heap[w.heap.size]? = some (.cells #[.int .i64 (hm' : Nat), .int .i64 (hi : Nat), .int .u64 (hn' : Nat), .int .i64 (hu' : Nat), .bool hs] 66 (0, 0)) ∧ LS = lprtg st b dp hm' op j q s' ms ∧ b.length + 1 ≤ q + j ∧ ms.length + 2 * (b.length - q) ≤ 999990 ∧ sz s' + (b.length - q) ≤ 140737488351232)) (fun wx => b.length - rat g wx)
  case atStart => exact HX0
  case round =>
    obtain ⟨j, q, s1, ms, vx, D, hO, hH, hls, hj, hms, hys⟩ := hrel.out
    have hql := hO.i.r.hp
    obtain ⟨j', rfl⟩ : ∃ j', j = j' + 1 := ⟨j - 1, by omega⟩
    have HRt := hide (rat_eq hO.i.r)
    have HO1 := hide hO
    have HH1 := hide hH
    have HLE : Hid (LS = if b[q]? = some 255 then .ok (s1, ms, q + 1) else lbind (lpiec b dp hm' q op) fun x => lprtg st b dp hm' op j' (x.2 + x.1.n) (st s1 q ((b.drop x.2).take x.1.n)) (lnot x.2 x.1 ms)) := hls
    have HJ2 : Hid (b.length + 1 ≤ q + (j' + 1) ∧ ms.length + 2 * (b.length - q) ≤ 999990 ∧ sz s1 + (b.length - q) ≤ 140737488351232 ∧ q ≤ b.length) := ⟨hj, hms, hys, hql⟩
    clear hO hH hls hj hms hys hql hrel HX0
    go_wp2_with fail
    refine (ended9_any HO1.out.i.r).mono ?_
    rintro e w2 ⟨rfl, hr2, hk2⟩
    have h22 := HO1.out.i.rdr hr2 hk2
    have HH2 := hide (HO1.out.kept HH1.out h22)
    have HO2 := hide (HO1.out.itg HCC.out h22)
    have HBR : Hid (lbrk b q = decide (b[q]? = some 255)) := rfl
    clear hr2 hk2 h22 HO1 HH1
    generalize hbb : lbrk b q = bb at *
    have HLP : Hid (lbp b q = if bb = true then q + 1 else q) := by show _ = _; unfold lbp; rw [hbb]
    rw [HLP.out] at HO2
    clear hbb HLP
    cases bb with
    | true =>
      as_aux_lemma =>
      have HL2 : Hid (LS = .ok (s1, ms, q + 1)) := by show _ = _; rw [HLE.out, if_pos (of_decide_eq_true HBR.out.symm)]
      have HO3 : Hid (Opc w w2 N0 g v b dp (q + 1) op vn vx ms cl D0 D s1) := HO2.out
      clear HO2 HLE HBR
      go_wp2_with fail
      first
        | (go_end0; exact .inl ⟨_, _, _, HL2.out, rfl, HO3.out⟩)
        | exact bodyPost_ret (results_none rfl _ _ _) rfl (.inl ⟨_, _, _, HL2.out, rfl, HO3.out⟩)
    | false =>
      have HL2 : Hid (LS = lbind (lpiec b dp hm' q op) fun x => lprtg st b dp hm' op j' (x.2 + x.1.n) (st s1 q ((b.drop x.2).take x.1.n)) (lnot x.2 x.1 ms)) := by show _ = _; rw [HLE.out, if_neg (of_decide_eq_false HBR.out.symm)]
      have HO3 : Hid (Opc w w2 N0 g v b dp q op vn vx ms cl D0 D s1) := HO2.out
      have c1 : w2.cell? ⟨g, 1, none⟩ = some (.int .i64 (q : Nat)) := blk_cell HO3.out.i.r.blk (rcl_1 HO3.out.i.r.z)
      have HPR := hide (piec_ris b dp hm' q op HMJ.out)
      clear HO2 HLE HBR
      go_upto_region 6 with fail
      clear c1
      have hbd : Below w2.heap.size w2 w2.drew := by
        refine Below.drew ?_
        exact Below.refl _ _
      have hS := HO3.out.kept HH2.out (HO3.out.i.next hbd)
      have HO4 := hide (HO3.out.itg HCC.out (HO3.out.i.next hbd))
      clear hbd HO3 HH2
      obtain ⟨PC, hpc⟩ : ∃ PC, PC = lpiec b dp hm' q op := ⟨_, rfl⟩
      rw [← hpc] at HL2 HPR
      have HPC := hide hpc.symm
      clear hpc
      cases PC with
      | error x =>
        obtain ⟨c, q'⟩ := x
        have HL3 : Hid (LS = .error (c, q')) := HL2.out
        clear HL2 HPR
        refine heldStart (S := fun wy => wy.heap[w.heap.size]? = some (.cells #[.int .i64 (hm' : Nat), .int .i64 (hi : Nat), .int .u64 (hn' : Nat), .int .i64 (hu' : Nat), .bool hs] 66 (0, 0))) (by kernel_rfl) ?_
        generalize w2.drew = w3 at *
        refine heldTake 0 _ rfl (by kernel_rfl) (by kernel_rfl) (by kernel_rfl) (fun _ _ _ h => h) rfl hS (fun wy hy => by first | (go_simp; done) | (go_simp; rfl) | rfl) ?_
        (try simp only [Act.put]); (try simp only [LsA, Ls0, LsS])
        refine heldTake 1 _ rfl (by kernel_rfl) (by kernel_rfl) (by kernel_rfl) (fun _ _ _ h => h) rfl hS (fun wy hy => by first | (go_simp; done) | (go_simp; rfl) | rfl) ?_
        (try simp only [Act.put]); (try simp only [LsA, Ls0, LsS])
        refine heldTake 2 _ rfl (by kernel_rfl) (by kernel_rfl) (by kernel_rfl) (fun _ _ _ h => h) rfl hS (fun wy hy => by first | (go_simp; done) | (go_simp; rfl) | rfl) ?_
        (try simp only [Act.put]); (try simp only [LsA, Ls0, LsS])
        refine heldTake 3 _ rfl (by kernel_rfl) (by kernel_rfl) (by kernel_rfl) (fun _ _ _ h => h) rfl hS (fun wy hy => by first | (go_simp; done) | (go_simp; rfl) | rfl) ?_
        (try simp only [Act.put]); (try simp only [LsA, Ls0, LsS])
        refine heldTake 4 _ rfl (by kernel_rfl) (by kernel_rfl) (by kernel_rfl) (fun _ _ _ h => h) rfl hS (fun wy hy => by first | (go_simp; done) | (go_simp; rfl) | rfl) ?_
        (try simp only [Act.put]); (try simp only [LsA, Ls0, LsS])
        refine heldTake 5 _ rfl (by kernel_rfl) (by kernel_rfl) (by kernel_rfl) (fun _ _ _ h => h) rfl hS (fun wy hy => by have h0 : wy.cell? ⟨w.heap.size, 0, none⟩ = some (.int .i64 (hm' : Nat)) := blk_cell (j := 0) hy rfl; first | (go_simp; done) | (go_simp; rfl) | rfl) ?_
        (try simp only [Act.put]); (try simp only [LsA, Ls0, LsS])
        refine wpAnyH_ready (rs := [6, 8]) (by kernel_rfl) (by simp) ?_
        refine AllReadyH.cons rfl (fun K hK => ?_) (AllReadyH.cons rfl (fun K hK => ?_) AllReadyH.nil)
        · as_aux_lemma =>
          go_simp
          refine (piece9_no HO4.out.i.r hm' HPC.out).mono ?_
          rintro e w4 ⟨rfl, hk4⟩
          have HKE : Hid (Kp (fun q => q = g ∨ vn.ownBlock = some q ∨ D0 q) w w4) := HO4.out.k.trans hk4 (fun _ _ e => .inl e)
          clear hk4 hK
          go_simp
          exact ⟨rfl, .inr ⟨c, q', HL3.out, rfl, HKE.out⟩⟩
        · as_aux_lemma =>
          go_simp
          have hba := below_alloc4 w3 (.cells #[.int .i64 0, .int .i64 0, .int .u64 0, .int .i64 0, .bool false] 66)
          have hS1 := HO4.out.kept hS (HO4.out.i.next hba)
          have HO5 := hide (HO4.out.itg HCC.out (HO4.out.i.next hba))
          refine (Shut.out hK) _ _ hS1 (fun _ => ?_)
          clear hK K hba HO4 hS
          (try simp only [Act.put]); (try simp only [LsA, Ls0, LsS])
          generalize w3.alloc (.cells #[.int .i64 0, .int .i64 0, .int .u64 0, .int .i64 0, .bool false] 66) = w5 at *
          refine heldStep 6 rfl (by kernel_rfl) (fun K1 hK1 => ?_)
          go_simp
          refine (piece9_no HO5.out.i.r hm' HPC.out).mono ?_
          rintro e w4 ⟨rfl, hk4⟩
          have HKE : Hid (Kp (fun q => q = g ∨ vn.ownBlock = some q ∨ D0 q) w w4) := HO5.out.k.trans hk4 (fun _ _ e => .inl e)
          clear hk4 hK1
          go_simp
          exact ⟨rfl, .inr ⟨c, q', HL3.out, rfl, HKE.out⟩⟩
      | ok x =>
        obtain ⟨⟨ym, yi, yn, yu, ys, ye⟩, yp⟩ := x
        have HPO : Hid (q < yp + yn ∧ yp + yn ≤ b.length) := HPR.out.ok _ rfl
        have HPU : Hid (yu ≤ yp ∧ yi ≠ 31 ∧ q ≤ yp) := piec_ok HPC.out
        have HL3 : Hid (LS = lprtg st b dp hm' op j' (yp + yn) (st s1 q ((b.drop yp).take yn)) (lnot yp ⟨ym, yi, yn, yu, ys, ye⟩ ms)) := HL2.out
        have HI5 : Hid ((Tryz.prog.info? 66).map (·.size) = some (#[.int .i64 (ym : Nat), .int .i64 (yi : Nat), .int .u64 (yn : Nat), .int .i64 (yu : Nat), .bool ys] : Array Value).size) := infoHd
        have HA5 : Hid ((#[.int .i64 (ym : Nat), .int .i64 (yi : Nat), .int .u64 (yn : Nat), .int .i64 (yu : Nat), .bool ys] : Array Value).all (·.oneCell') = true) := by show _ = _; simp [Value.oneCell']
        have HYV : Hid (HR.val ⟨ym, yi, yn, yu, ys, ye⟩ = .agg #[.int .i64 (ym : Nat), .int .i64 (yi : Nat), .int .u64 (yn : Nat), .int .i64 (yu : Nat), .bool ys]) := rfl
        clear HL2 HPR
        go_cut [8] from 29 to 55 (fun s8 wx => ∃ vx2 H2, s8 = .pointer (some ⟨H2, 0, none⟩) ∧ Hid (Opc w wx N0 g v b dp yp op vn vx2 (lnot yp ⟨ym, yi, yn, yu, ys, ye⟩ ms) cl D0 D s1) ∧ Hid (wx.heap[w.heap.size]? = some (.cells #[.int .i64 (hm' : Nat), .int .i64 (hi : Nat), .int .u64 (hn' : Nat), .int .i64 (hu' : Nat), .bool hs] 66 (0, 0))) ∧ Hid (wx.heap[H2]? = some (.cells #[.int .i64 (ym : Nat), .int .i64 (yi : Nat), .int .u64 (yn : Nat), .int .i64 (yu : Nat), .bool ys] 66 (0, 0))))
        case first =>
          refine heldStart (S := fun wy => wy.heap[w.heap.size]? = some (.cells #[.int .i64 (hm' : Nat), .int .i64 (hi : Nat), .int .u64 (hn' : Nat), .int .i64 (hu' : Nat), .bool hs] 66 (0, 0))) (by kernel_rfl) ?_
          generalize w2.drew = w3 at *
          refine heldTake 0 _ rfl (by kernel_rfl) (by kernel_rfl) (by kernel_rfl) (fun _ _ _ h => h) rfl hS (fun wy hy => by first | (go_simp; done) | (go_simp; rfl) | rfl) ?_
          (try simp only [Act.put]); (try simp only [LsA, Ls0, LsS])
          refine heldTake 1 _ rfl (by kernel_rfl) (by kernel_rfl) (by kernel_rfl) (fun _ _ _ h => h) rfl hS (fun wy hy => by first | (go_simp; done) | (go_simp; rfl) | rfl) ?_
          (try simp only [Act.put]); (try simp only [LsA, Ls0, LsS])
          refine heldTake 2 _ rfl (by kernel_rfl) (by kernel_rfl) (by kernel_rfl) (fun _ _ _ h => h) rfl hS (fun wy hy => by first | (go_simp; done) | (go_simp; rfl) | rfl) ?_
          (try simp only [Act.put]); (try simp only [LsA, Ls0, LsS])
          refine heldTake 3 _ rfl (by kernel_rfl) (by kernel_rfl) (by kernel_rfl) (fun _ _ _ h => h) rfl hS (fun wy hy => by first | (go_simp; done) | (go_simp; rfl) | rfl) ?_
          (try simp only [Act.put]); (try simp only [LsA, Ls0, LsS])
          refine heldTake 4 _ rfl (by kernel_rfl) (by kernel_rfl) (by kernel_rfl) (fun _ _ _ h => h) rfl hS (fun wy hy => by first | (go_simp; done) | (go_simp; rfl) | rfl) ?_
          (try simp only [Act.put]); (try simp only [LsA, Ls0, LsS])
          refine heldTake 5 _ rfl (by kernel_rfl) (by kernel_rfl) (by kernel_rfl) (fun _ _ _ h => h) rfl hS (fun wy hy => by have h0 : wy.cell? ⟨w.heap.size, 0, none⟩ = some (.int .i64 (hm' : Nat)) := blk_cell (j := 0) hy rfl; first | (go_simp; done) | (go_simp; rfl) | rfl) ?_
          (try simp only [Act.put]); (try simp only [LsA, Ls0, LsS])
          refine wpAnyH_ready (rs := [6, 8]) (by kernel_rfl) (by simp) ?_
          refine AllReadyH.cons rfl (fun K hK => ?_) (AllReadyH.cons rfl (fun K hK => ?_) AllReadyH.nil)
          · as_aux_lemma =>
            go_simp
            refine (piece9_ok HO4.out.i.r hm' HPC.out).mono ?_
            rintro e w4 ⟨rfl, hr4, hk4⟩
            have h44 := HO4.out.i.rdr hr4 hk4
            have hS1 := HO4.out.kept hS h44
            have HO5 := hide (HO4.out.itg HCC.out h44)
            refine (Shut.out hK) _ _ hS1 (fun _ => ?_)
            clear hK K hr4 hk4 h44 HO4 hS
            (try simp only); (try simp only [LsA, Ls0, LsS])
            have hS := hS1
            clear hS1
            refine wpAnyH_ready (rs := [7, 8]) (by kernel_rfl) (by simp) ?_
            refine AllReadyH.cons rfl (fun K hK => ?_) (AllReadyH.cons rfl (fun K hK => ?_) AllReadyH.nil)
            · as_aux_lemma =>
              go_simp
              refine (noted9_any HO5.out.i (by have h1 := HJ2.out; omega) ⟨ym, yi, yn, yu, ys, ye⟩ HPU.out.1).mono ?_
              rintro e w5 ⟨rfl, hP⟩
              obtain ⟨vx2, h44⟩ := hP.out
              rw [HYV.out]
              have hS1 := HO5.out.kept hS h44
              have HO6 := hide (HO5.out.itg HCC.out h44)
              refine (Shut.out hK) _ _ hS1 (fun _ => ?_)
              clear hK K hP h44 HO5 hS
              (try simp only [Act.put]); (try simp only [LsA, Ls0, LsS])
              have hS := hS1
              clear hS1
              refine heldStep 8 rfl (by kernel_rfl) (fun K hK => ?_)
              go_simp
              have hba := below_alloc4 w5 (.cells #[.int .i64 0, .int .i64 0, .int .u64 0, .int .i64 0, .bool false] 66)
              have hS1 := HO6.out.kept hS (HO6.out.i.next hba)
              have HO7 := hide (HO6.out.itg HCC.out (HO6.out.i.next hba))
              have HAL := hide (heap_alloc_new w5 (.cells #[.int .i64 0, .int .i64 0, .int .u64 0, .int .i64 0, .bool false] 66))
              have HWL : Hid (w.heap.size ≤ w5.heap.size) := HO6.out.k.size
              refine (Hid.out hK) _ _ hS1 (fun _ => ?_)
              clear hK K hba HO6 hS
              (try simp only [Act.put]); (try simp only [LsA, Ls0, LsS])
              generalize w5.alloc (.cells #[.int .i64 0, .int .i64 0, .int .u64 0, .int .i64 0, .bool false] 66) = w6 at *
              have hS := hS1
              clear hS1
              refine heldStep 9 rfl (by kernel_rfl) (fun K hK => ?_)
              have hne : w5.heap.size ≠ w.heap.size := fun e => by have h1 := HAL.out; rw [e, hS] at h1; injection h1 with h1; injection h1 with h1 _ _; have h2 := congrArg (fun z : Array Value => z[1]?) h1; simp at h2; have h3 := H31.out; omega
              have hS1 := (row_kp w6 w5.heap.size #[.int .i64 (ym : Nat), .int .i64 (yi : Nat), .int .u64 (yn : Nat), .int .i64 (yu : Nat), .bool ys]).block _ (blk_lt hS) (fun e => hne e.symm)
              rw [hS] at hS1
              have HOZ := hide (HO7.out.set (c' := #[.int .i64 (ym : Nat), .int .i64 (yi : Nat), .int .u64 (yn : Nat), .int .i64 (yu : Nat), .bool ys]) HCC.out HAL.out HWL.out HN0.out)
              have HYY := hide (row_same (cs := #[.int .i64 (ym : Nat), .int .i64 (yi : Nat), .int .u64 (yn : Nat), .int .i64 (yu : Nat), .bool ys]) HAL.out)
              refine step_storeRow rfl rfl w5.heap.size #[.int .i64 0, .int .i64 0, .int .u64 0, .int .i64 0, .bool false] #[.int .i64 (ym : Nat), .int .i64 (yi : Nat), .int .u64 (yn : Nat), .int .i64 (yu : Nat), .bool ys] 66 rfl rfl HAL.out HI5.out rfl HA5.out ?_
              refine (Hid.out hK) _ _ hS1 (fun _ => ?_)
              clear hK K hne hS
              (try simp only [Act.put]); (try simp only [LsA, Ls0, LsS])
              refine heldDone (by kernel_rfl) ?_
              go_wp2_with fail
              go_meet
              exact ⟨_, _, rfl, HOZ, hS1, HYY⟩
            · as_aux_lemma =>
              go_simp
              have hba := below_alloc4 w4 (.cells #[.int .i64 0, .int .i64 0, .int .u64 0, .int .i64 0, .bool false] 66)
              have hS1 := HO5.out.kept hS (HO5.out.i.next hba)
              have HO6 := hide (HO5.out.itg HCC.out (HO5.out.i.next hba))
              have HAL := hide (heap_alloc_new w4 (.cells #[.int .i64 0, .int .i64 0, .int .u64 0, .int .i64 0, .bool false] 66))
              have HWL : Hid (w.heap.size ≤ w4.heap.size) := HO5.out.k.size
              refine (Shut.out hK) _ _ hS1 (fun _ => ?_)
              clear hK K hba HO5 hS
              (try simp only [Act.put]); (try simp only [LsA, Ls0, LsS])
              generalize w4.alloc (.cells #[.int .i64 0, .int .i64 0, .int .u64 0, .int .i64 0, .bool false] 66) = w5 at *
              have hS := hS1
              clear hS1
              refine heldStep 7 rfl (by kernel_rfl) (fun K hK => ?_)
              go_simp
              refine (noted9_any HO6.out.i (by have h1 := HJ2.out; omega) ⟨ym, yi, yn, yu, ys, ye⟩ HPU.out.1).mono ?_
              rintro e w6 ⟨rfl, hP⟩
              obtain ⟨vx2, h44⟩ := hP.out
              rw [HYV.out]
              have hS1 := HO6.out.kept hS h44
              have HO7 := hide (HO6.out.itg HCC.out h44)
              replace HAL := hide (HO6.out.kept HAL.out h44)
              refine (Hid.out hK) _ _ hS1 (fun _ => ?_)
              clear hK K hP h44 HO6 hS
              (try simp only [Act.put]); (try simp only [LsA, Ls0, LsS])
              have hS := hS1
              clear hS1
              refine heldStep 9 rfl (by kernel_rfl) (fun K hK => ?_)
              have hne : w4.heap.size ≠ w.heap.size := fun e => by have h1 := HAL.out; rw [e, hS] at h1; injection h1 with h1; injection h1 with h1 _ _; have h2 := congrArg (fun z : Array Value => z[1]?) h1; simp at h2; have h3 := H31.out; omega
              have hS1 := (row_kp w6 w4.heap.size #[.int .i64 (ym : Nat), .int .i64 (yi : Nat), .int .u64 (yn : Nat), .int .i64 (yu : Nat), .bool ys]).block _ (blk_lt hS) (fun e => hne e.symm)
              rw [hS] at hS1
              have HOZ := hide (HO7.out.set (c' := #[.int .i64 (ym : Nat), .int .i64 (yi : Nat), .int .u64 (yn : Nat), .int .i64 (yu : Nat), .bool ys]) HCC.out HAL.out HWL.out HN0.out)
              have HYY := hide (row_same (cs := #[.int .i64 (ym : Nat), .int .i64 (yi : Nat), .int .u64 (yn : Nat), .int .i64 (yu : Nat), .bool ys]) HAL.out)
              refine step_storeRow rfl rfl w4.heap.size #[.int .i64 0, .int .i64 0, .int .u64 0, .int .i64 0, .bool false] #[.int .i64 (ym : Nat), .int .i64 (yi : Nat), .int .u64 (yn : Nat), .int .i64 (yu : Nat), .bool ys] 66 rfl rfl HAL.out HI5.out rfl HA5.out ?_
              refine (Hid.out hK) _ _ hS1 (fun _ => ?_)
              clear hK K hne hS
              (try simp only [Act.put]); (try simp only [LsA, Ls0, LsS])
              refine heldDone (by kernel_rfl) ?_
              go_wp2_with fail
              go_meet
              exact ⟨_, _, rfl, HOZ, hS1, HYY⟩
          · as_aux_lemma =>
            go_simp
            have hba := below_alloc4 w3 (.cells #[.int .i64 0, .int .i64 0, .int .u64 0, .int .i64 0, .bool false] 66)
            have hS1 := HO4.out.kept hS (HO4.out.i.next hba)
            have HO5 := hide (HO4.out.itg HCC.out (HO4.out.i.next hba))
            have HAL := hide (heap_alloc_new w3 (.cells #[.int .i64 0, .int .i64 0, .int .u64 0, .int .i64 0, .bool false] 66))
            have HWL : Hid (w.heap.size ≤ w3.heap.size) := HO4.out.k.size
            refine (Shut.out hK) _ _ hS1 (fun _ => ?_)
            clear hK K hba HO4 hS
            (try simp only [Act.put]); (try simp only [LsA, Ls0, LsS])
            generalize w3.alloc (.cells #[.int .i64 0, .int .i64 0, .int .u64 0, .int .i64 0, .bool false] 66) = w4 at *
            have hS := hS1
            clear hS1
            refine heldStep 6 rfl (by kernel_rfl) (fun K hK => ?_)
            go_simp
            refine (piece9_ok HO5.out.i.r hm' HPC.out).mono ?_
            rintro e w5 ⟨rfl, hr4, hk4⟩
            have h44 := HO5.out.i.rdr hr4 hk4
            have hS1 := HO5.out.kept hS h44
            have HO6 := hide (HO5.out.itg HCC.out h44)
            replace HAL := hide (HO5.out.kept HAL.out h44)
            refine (Hid.out hK) _ _ hS1 (fun _ => ?_)
            clear hK K hr4 hk4 h44 HO5 hS
            (try simp only); (try simp only [LsA, Ls0, LsS])
            have hS := hS1
            clear hS1
            refine heldStep 7 rfl (by kernel_rfl) (fun K hK => ?_)
            go_simp
            refine (noted9_any HO6.out.i (by have h1 := HJ2.out; omega) ⟨ym, yi, yn, yu, ys, ye⟩ HPU.out.1).mono ?_
            rintro e w6 ⟨rfl, hP⟩
            obtain ⟨vx2, h44⟩ := hP.out
            rw [HYV.out]
            have hS1 := HO6.out.kept hS h44
            have HO7 := hide (HO6.out.itg HCC.out h44)
            replace HAL := hide (HO6.out.kept HAL.out h44)
            refine (Hid.out hK) _ _ hS1 (fun _ => ?_)
            clear hK K hP h44 HO6 hS
            (try simp only [Act.put]); (try simp only [LsA, Ls0, LsS])
            have hS := hS1
            clear hS1
            refine heldStep 9 rfl (by kernel_rfl) (fun K hK => ?_)
            have hne : w3.heap.size ≠ w.heap.size := fun e => by have h1 := HAL.out; rw [e, hS] at h1; injection h1 with h1; injection h1 with h1 _ _; have h2 := congrArg (fun z : Array Value => z[1]?) h1; simp at h2; have h3 := H31.out; omega
            have hS1 := (row_kp w6 w3.heap.size #[.int .i64 (ym : Nat), .int .i64 (yi : Nat), .int .u64 (yn : Nat), .int .i64 (yu : Nat), .bool ys]).block _ (blk_lt hS) (fun e => hne e.symm)
            rw [hS] at hS1
            have HOZ := hide (HO7.out.set (c' := #[.int .i64 (ym : Nat), .int .i64 (yi : Nat), .int .u64 (yn : Nat), .int .i64 (yu : Nat), .bool ys]) HCC.out HAL.out HWL.out HN0.out)
            have HYY := hide (row_same (cs := #[.int .i64 (ym : Nat), .int .i64 (yi : Nat), .int .u64 (yn : Nat), .int .i64 (yu : Nat), .bool ys]) HAL.out)
            refine step_storeRow rfl rfl w3.heap.size #[.int .i64 0, .int .i64 0, .int .u64 0, .int .i64 0, .bool false] #[.int .i64 (ym : Nat), .int .i64 (yi : Nat), .int .u64 (yn : Nat), .int .i64 (yu : Nat), .bool ys] 66 rfl rfl HAL.out HI5.out rfl HA5.out ?_
            refine (Hid.out hK) _ _ hS1 (fun _ => ?_)
            clear hK K hne hS
            (try simp only [Act.put]); (try simp only [LsA, Ls0, LsS])
            refine heldDone (by kernel_rfl) ?_
            go_wp2_with fail
            go_meet
            exact ⟨_, _, rfl, HOZ, hS1, HYY⟩
        case rest =>
          obtain ⟨vx2, H2, rfl, HO7, HH7, HY7⟩ := hcut
          clear hS HO4
          go_upto_region 7 with fail
          refine heldStart (S := fun wy => wy.heap[H2]? = some (.cells #[.int .i64 (ym : Nat), .int .i64 (yi : Nat), .int .u64 (yn : Nat), .int .i64 (yu : Nat), .bool ys] 66 (0, 0))) (by kernel_rfl) ?_
          have hbd : Below wc.heap.size wc wc.drew := by
            refine Below.drew ?_
            exact Below.refl _ _
          have hS := HO7.out.kept HY7.out (HO7.out.i.next hbd)
          have HH8 := hide (HO7.out.kept HH7.out (HO7.out.i.next hbd))
          have HO8 := hide (HO7.out.itg HCC.out (HO7.out.i.next hbd))
          clear hbd HO7 HH7 HY7
          generalize wc.drew = w8 at *
          refine heldTake 0 _ rfl (by kernel_rfl) (by kernel_rfl) (by kernel_rfl) (fun _ _ _ h => h) rfl hS (fun wy hy => by first | (go_simp; done) | (go_simp; rfl) | rfl) ?_
          (try simp only [Act.put]); (try simp only [LsA, Ls0, LsS])
          refine heldTake 1 _ rfl (by kernel_rfl) (by kernel_rfl) (by kernel_rfl) (fun _ _ _ h => h) rfl hS (fun wy hy => by first | (go_simp; done) | (go_simp; rfl) | rfl) ?_
          (try simp only [Act.put]); (try simp only [LsA, Ls0, LsS])
          refine heldTake 2 _ rfl (by kernel_rfl) (by kernel_rfl) (by kernel_rfl) (fun _ _ _ h => h) rfl hS (fun wy hy => by first | (go_simp; done) | (go_simp; rfl) | rfl) ?_
          (try simp only [Act.put]); (try simp only [LsA, Ls0, LsS])
          refine heldTake 3 _ rfl (by kernel_rfl) (by kernel_rfl) (by kernel_rfl) (fun _ _ _ h => h) rfl hS (fun wy hy => by first | (go_simp; done) | (go_simp; rfl) | rfl) ?_
          (try simp only [Act.put]); (try simp only [LsA, Ls0, LsS])
          refine heldTake 4 _ rfl (by kernel_rfl) (by kernel_rfl) (by kernel_rfl) (fun _ _ _ h => h) rfl hS (fun wy hy => by first | (go_simp; done) | (go_simp; rfl) | rfl) ?_
          (try simp only [Act.put]); (try simp only [LsA, Ls0, LsS])
          refine heldTake 5 _ rfl (by kernel_rfl) (by kernel_rfl) (by kernel_rfl) (fun _ _ _ h => h) rfl hS (fun wy hy => by first | (go_simp; done) | (go_simp; rfl) | rfl) ?_
          (try simp only [Act.put]); (try simp only [LsA, Ls0, LsS])
          refine heldTake 6 _ rfl (by kernel_rfl) (by kernel_rfl) (by kernel_rfl) (fun _ _ _ h => h) rfl hS (fun wy hy => by have h0 : wy.cell? ⟨H2, 2, none⟩ = some (.int .u64 (yn : Nat)) := blk_cell (j := 2) hy rfl; first | (go_simp; done) | (go_simp; rfl) | rfl) ?_
          (try simp only [Act.put]); (try simp only [LsA, Ls0, LsS])
          refine heldStep 7 rfl (by kernel_rfl) (fun K1 hK1 => ?_)
          go_simp
          refine (take9_any HO8.out.i.r yn HPO.out.2).mono ?_
          rintro e w9 ⟨ap, np, cp, rfl, hbp, hr3, hk3⟩
          have h33 := HO8.out.i.rdr hr3 hk3
          have hS1 := HO8.out.kept hS h33
          have HH9 := hide (HO8.out.kept HH8.out h33)
          have HO9 := hide (HO8.out.itg HCC.out h33)
          have HBP := hide (hbp w9 (Kp.refl _ _))
          refine (Hid.out hK1) _ _ hS1 (fun hS2 => ?_)
          clear hK1 K1 hS
          have hS := hS2
          clear hS2
          (try simp only [Act.put]); (try simp only [LsA, Ls0, LsS])
          clear hS1 h33 hbp hr3 hk3 HO8 HH8
          refine heldStep 8 rfl (by kernel_rfl) (fun K1 hK1 => ?_)
          go_simp
          refine (HCC.out.call q HO9.out.t HBP.out (HQ.out _ _) (by rw [List.length_take, List.length_drop]; have h1 := HJ2.out; have h2 := HPO.out; have h3 := HPU.out; omega)).mono ?_
          rintro e w10 ⟨rfl, hP⟩
          obtain ⟨D', h41, h42, h43⟩ := hP.out
          have hS1 := HO9.out.keptG HCC.out hS h42
          have HH10 := hide (HO9.out.keptG HCC.out HH9.out h42)
          have HO10 := hide (HO9.out.gat HCC.out h41 h42 h43)
          refine (Hid.out hK1) _ _ hS1 (fun hS2 => ?_)
          clear hK1 K1 hS
          have hS := hS2
          clear hS2
          (try simp only [Act.put]); (try simp only [LsA, Ls0, LsS])
          clear hS1 h41 h42 h43 hP HO9 HH9
          refine heldDone (by kernel_rfl) ?_
          clear hS
          have HRA := hide (rat_eq HO10.out.i.r)
          have HNX : Hid (∃ j q s' ms vx D, Opc w w10 N0 g v b dp q op vn vx ms cl D0 D s' ∧ w10.heap[w.heap.size]? = some (.cells #[.int .i64 (hm' : Nat), .int .i64 (hi : Nat), .int .u64 (hn' : Nat), .int .i64 (hu' : Nat), .bool hs] 66 (0, 0)) ∧ LS = lprtg st b dp hm' op j q s' ms ∧ b.length + 1 ≤ q + j ∧ ms.length + 2 * (b.length - q) ≤ 999990 ∧ sz s' + (b.length - q) ≤ 140737488351232) := ⟨j', yp + yn, _, _, _, _, HO10.out, HH10.out, HL3.out, by have h1 := HJ2.out; have h2 := HPO.out; omega, by have h1 := HJ2.out; have h2 := HPO.out; have h3 := not_len yp ⟨ym, yi, yn, yu, ys, ye⟩ ms; omega, by rw [HCC.out.size, List.length_take, List.length_drop]; have h1 := HJ2.out; have h2 := HPO.out; have h3 := HPU.out; omega⟩
          go_wp2_with fail
          go_roundw
          case rel => first | exact HNX | exact ⟨HNX, rfl⟩
          case measure => have h1 := HRt.out; have h2 := HRA.out; have h3 := HPO.out; omega
theorem eachPart9c_any {σ : Type} {fn : FuncId} {caps : List Value} {N0 : Nat} {cl : World → σ → (Nat → Prop) → Prop} {st : σ → Nat → List Nat → σ} {sz : σ → Nat} (hC : Clo fn caps N0 cl st sz) {w : World} {g : Nat} {v : Value} {b : List Nat} {dp p op : Nat} {vn : Value} {ns : List (Nat × Nat)} {D0 : Nat → Prop} {s : σ} (hI : Itp w N0 g v b dp p op vn ns) (hq : ∀ x ∈ b, x < 256) (hT : cl w s D0) (h : HR) (J : Nat) (hJ : b.length + 1 ≤ J) (hm : h.m = 2 ∨ h.m = 3) (hd : Hdo b dp op (h, p)) (hu : h.u ≤ p) (hn : ns.length + 2 * (b.length - p) ≤ 999990) (hx : sz s + (b.length - p) ≤ 140737488351232) : Calls Tryz.prog 40 #[.pointer (some ⟨g, 0, none⟩), h.val, .func (.func fn) #[] caps.toArray] w (EpC w N0 g v b dp op vn cl D0 (lallg st b dp J op p h s ns)) := by
  by_cases h31 : h.i = 31
  · exact eachPart9c_many hC hI hq hT h J hJ hm h31 hd hu hn hx
  · exact eachPart9c_one hC hI hq hT h J hJ hm h31 hd hu hn hx
end
section
open Go.RowKit Go
theorem run_enter9 {f : FuncId} {fn : Func} (hf : Tryz.prog.funcs[f]? = some fn) (hn : (fn.name == "runtime.NumGoroutine") = false) (hb : fn.body.isNone = false) (args : Array Value) (w : World) : (callFunc f args).run Tryz.prog w = .ok (.enter f args) w := by
  have h1 : fn.name ≠ "runtime.NumGoroutine" := by simpa using hn
  cases hc : fn.body with
  | none => rw [hc] at hb; cases hb
  | some c => simp [callFunc, hf, h1, hc]
def clO (N1 R : Nat) (wx : World) (xs : List Nat) (D : Nat → Prop) : Prop := ∃ va, Gtb wx N1 R va xs ∧ D = fun q => q = R ∨ va.ownBlock = some q
theorem Gtb.keep {wx wy : World} {N1 R : Nat} {va : Value} {xs : List Nat} {S : Nat → Prop} (h : Gtb wx N1 R va xs) (hk : Kp S wx wy) (hS : ∀ q, (q = R ∨ va.ownBlock = some q) → ¬ S q) : Gtb wy N1 R va xs :=
  ⟨(hk.block _ (blk_lt h.v) (hS _ (.inl rfl))).trans h.v, hk.owns h.o (fun q e => hS q (.inr e)), h.g⟩
theorem Gtb.low {wx : World} {N1 R : Nat} {va : Value} {xs : List Nat} (h : Gtb wx N1 R va xs) {q : Nat} (hq : q = R ∨ va.ownBlock = some q) : N1 ≤ q := by
  rcases hq with rfl | e
  · exact h.g
  · exact (h.o.lt q e).1
theorem Gtb.typ {wx : World} {N1 R : Nat} {va : Value} {xs : List Nat} (h : Gtb wx N1 R va xs) {q : Nat} (hq : q = R ∨ va.ownBlock = some q) : ∃ c T, wx.heap[q]? = some (.cells c T (0, 0)) ∧ T ≠ 66 ∧ T ≠ 60 ∧ T ≠ 55 := by
  rcases hq with rfl | e
  · exact ⟨_, _, h.v, by decide, by decide, by decide⟩
  · obtain ⟨c, hc⟩ := own_block_type h.o e
    exact ⟨_, _, hc, by decide, by decide, by decide⟩
theorem clo_octets {N0 N1 R : Nat} (hN : N0 ≤ N1) : Clo 41 [.pointer (some ⟨R, 0, none⟩)] N0 (clO N1 R) (fun xs _ ys => xs ++ ys) List.length where
  enter := run_enter9 Tryz.func41 (by kernel_rfl) rfl
  keep := by
    rintro wx wy s D S ⟨va, h, rfl⟩ hk hS -
    exact ⟨va, h.keep hk hS, rfl⟩
  low := by
    rintro wx s D q ⟨va, h, rfl⟩ hq
    exact Nat.le_trans hN (h.low hq)
  typ := by
    rintro wx s D q ⟨va, h, rfl⟩ hq
    exact h.typ hq
  size := fun s _ ys => List.length_append
  call := by
    rintro wx s D vp ys p ⟨va, h, rfl⟩ hb - hn
    refine (octets1_any h (p : Nat) vp ys hb hn).mono ?_
    rintro e w' ⟨rfl, hP⟩
    obtain ⟨va', h1, h2, h3⟩ := hP.out
    refine ⟨rfl, _, ⟨va', h1, rfl⟩, h2, fun q hq => ?_⟩
    rcases hq with hq | hq
    · exact .inl (.inl hq)
    · rcases h3 with h3 | h3
      · exact .inl (.inr (h3 ▸ hq))
      · exact .inr (h3 q hq)
def OctP (w : World) (N0 g : Nat) (v : Value) (b : List Nat) (dp op : Nat) (vn : Value) (r : Lx (List Nat × List (Nat × Nat) × Nat)) (e : Ending) (w' : World) : Prop := (∃ x va vx, r = .ok x ∧ e = .returned va ∧ Itg w w' N0 g v b dp x.2.2 op vn vx x.2.1 ∧ w'.ownsRow w.heap.size 5 1 va x.1.length (bv x.1)) ∨ ∃ c q, r = .error (c, q) ∧ e = gup c q ∧ Kp (fun q => q = g ∨ vn.ownBlock = some q) w w'
theorem kp_d0 {w w1 wx : World} {g : Nat} {vn : Value} {D0 : Nat → Prop} (h : Kp (fun q => q = g ∨ vn.ownBlock = some q ∨ D0 q) w1 wx) (hb : Below w.heap.size w w1) (hD : ∀ q, D0 q → w.heap.size ≤ q) : Kp (fun q => q = g ∨ vn.ownBlock = some q) w wx := by
  have hk := Kp.of_below (S := fun _ => False) hb
  refine (hk.mono (fun _ _ e => e.elim)).trans h (fun q hq e => ?_)
  rcases e with e | e | e
  · exact .inl e
  · exact .inr e
  · have := hD q e
    omega
theorem Opc.itgs {σ : Type} {w w1 wx : World} {N0 g : Nat} {v : Value} {b : List Nat} {dp p op : Nat} {vn vx : Value} {ns : List (Nat × Nat)} {cl : World → σ → (Nat → Prop) → Prop} {D0 D : Nat → Prop} {s : σ} (h : Opc w1 wx N0 g v b dp p op vn vx ns cl D0 D s) (hb : Below w.heap.size w w1) (hD : ∀ q, D0 q → w.heap.size ≤ q) : Itg w wx N0 g v b dp p op vn vx ns := by
  have hs := hb.size
  exact ⟨h.i, kp_d0 h.k hb hD, h.nn.imp id (fun h q e => by have := h q e; omega)⟩
theorem octets9_any {w : World} {N0 g : Nat} {v : Value} {b : List Nat} {dp p op : Nat} {vn : Value} {ns : List (Nat × Nat)} (hI : Itp w N0 g v b dp p op vn ns) (hq : ∀ x ∈ b, x < 256) (h : HR) (J : Nat) (hJ : b.length + 1 ≤ J) (hm : h.m = 2 ∨ h.m = 3) (hd : Hdo b dp op (h, p)) (hu : h.u ≤ p) (hn : ns.length + 2 * (b.length - p) ≤ 999990) : Calls Tryz.prog 27 #[.pointer (some ⟨g, 0, none⟩), h.val] w (OctP w N0 g v b dp op vn (lallg (fun xs _ ys => xs ++ ys) b dp J op p h [] ns)) := by
  obtain ⟨LS, hLS⟩ : ∃ LS, LS = lallg (fun xs _ ys => xs ++ ys) b dp J op p h [] ns := ⟨_, rfl⟩
  rw [← hLS]
  obtain ⟨hm', hi, hn', hu', hs, he⟩ := h
  have hba := below_alloc4 w (.cells #[.int .i64 (hm' : Nat), .int .i64 (hi : Nat), .int .u64 (hn' : Nat), .int .i64 (hu' : Nat), .bool hs] 66)
  have hz1 : (w.alloc (.cells #[.int .i64 (hm' : Nat), .int .i64 (hi : Nat), .int .u64 (hn' : Nat), .int .i64 (hu' : Nat), .bool hs] 66)).heap.size = w.heap.size + 1 := by simp
  have hbb := below_alloc4 (w.alloc (.cells #[.int .i64 (hm' : Nat), .int .i64 (hi : Nat), .int .u64 (hn' : Nat), .int .i64 (hu' : Nat), .bool hs] 66)) (.cells #[.slice none 0 0] 26)
  have HB2 : Hid (Below w.heap.size w ((w.alloc (.cells #[.int .i64 (hm' : Nat), .int .i64 (hi : Nat), .int .u64 (hn' : Nat), .int .i64 (hu' : Nat), .bool hs] 66)).alloc (.cells #[.slice none 0 0] 26))) := hba.trans (hbb.mono hba.size)
  have hg1 := heap_alloc_new w (.cells #[.int .i64 (hm' : Nat), .int .i64 (hi : Nat), .int .u64 (hn' : Nat), .int .i64 (hu' : Nat), .bool hs] 66)
  have HHD := hide ((hbb.block _ (blk_lt hg1)).trans hg1)
  have hg2 := heap_alloc_new (w.alloc (.cells #[.int .i64 (hm' : Nat), .int .i64 (hi : Nat), .int .u64 (hn' : Nat), .int .i64 (hu' : Nat), .bool hs] 66)) (.cells #[.slice none 0 0] 26)
  rw [hz1] at hg2
  have HT0 : Hid (Gtb ((w.alloc (.cells #[.int .i64 (hm' : Nat), .int .i64 (hi : Nat), .int .u64 (hn' : Nat), .int .i64 (hu' : Nat), .bool hs] 66)).alloc (.cells #[.slice none 0 0] 26)) w.heap.size (w.heap.size + 1) (.slice none 0 0) []) := ⟨hg2, World.ownsRow_nil _ _ _ _, by omega⟩
  have HIT := hide (hI.next HB2.out).i
  have HN0 : Hid (N0 ≤ w.heap.size) := by have h1 := hI.g; have h2 := blk_lt hI.r.blk; show _ ≤ _; omega
  have HBL := hide hI.r.hb
  have HCL : Hid (∀ w1, Itp w1 N0 g v b dp p op vn ns → Gtb w1 w.heap.size (w.heap.size + 1) (.slice none 0 0) [] → Calls Tryz.prog 40 #[.pointer (some ⟨g, 0, none⟩), .agg #[.int .i64 (hm' : Nat), .int .i64 (hi : Nat), .int .u64 (hn' : Nat), .int .i64 (hu' : Nat), .bool hs], .func (.func 41) #[] #[.pointer (some ⟨w.heap.size + 1, 0, none⟩)]] w1 (EpC w1 N0 g v b dp op vn (clO w.heap.size (w.heap.size + 1)) (fun q => q = w.heap.size + 1 ∨ (Value.slice none 0 0).ownBlock = some q) LS)) := fun w1 h1 h2 => by rw [hLS]; exact eachPart9c_any (clo_octets HN0.out) h1 hq ⟨_, h2, rfl⟩ ⟨hm', hi, hn', hu', hs, he⟩ J hJ hm hd hu hn (by show 0 + _ ≤ _; have := HBL.out; omega)
  have HI := hide infoHd
  have HAG : Hid (∀ w, (isAgg 66).run Tryz.prog w = .ok true w) := aggHd
  have HCA : Hid (∀ j x, (#[.int .i64 (hm' : Nat), .int .i64 (hi : Nat), .int .u64 (hn' : Nat), .int .i64 (hu' : Nat), .bool hs] : Array Value)[j]? = some x → ((w.alloc (.cells #[.int .i64 (hm' : Nat), .int .i64 (hi : Nat), .int .u64 (hn' : Nat), .int .i64 (hu' : Nat), .bool hs] 66)).alloc (.cells #[.slice none 0 0] 26)).cell? ⟨w.heap.size, 0 + j, none⟩ = some x) := fun j x hj => by rw [Nat.zero_add]; exact blk_cell HHD.out hj
  simp only [HR.val]
  clear hI hq hJ hm hd hu hn hLS hba hbb hg1 hg2 hz1 HHD
  go_enter Tryz.func27, Tryz.ntmps27
  go_wp2_with (refine wpList_aggAt rfl rfl HI.out HAG.out w.heap.size 0 #[.int .i64 (hm' : Nat), .int .i64 (hi : Nat), .int .u64 (hn' : Nat), .int .i64 (hu' : Nat), .bool hs] rfl rfl HCA.out ?_)
  refine (HCL.out _ HIT.out HT0.out).mono ?_
  rintro e w2 (⟨x, vx, D, hx, rfl, hO⟩ | ⟨c, q, hx, he', hk⟩)
  · as_aux_lemma =>
    have HX := hide hx
    have HG := hide (hO.itgs HB2.out (by
      rintro q (rfl | e)
      · omega
      · cases e))
    obtain ⟨va, ht, -⟩ := hO.t
    have HTV := hide ht
    have c0 : w2.cell? ⟨w.heap.size + 1, 0, none⟩ = some va := blk_cell (j := 0) ht.v rfl
    obtain ⟨a0, cap0, hvn, -⟩ := own_formG ht.o
    subst hvn
    clear hO ht hx HCL HIT HT0 HCA HB2
    go_wp2_with fail
    exact bodyPost_ret (v := .slice a0 x.1.length cap0) (results_tmp (t := 4) rfl _ _ _) rfl (.inl ⟨x, _, vx, HX.out, rfl, HG.out, HTV.out.o⟩)
  · as_aux_lemma =>
    have HX := hide hx
    have HK := hide (kp_d0 hk HB2.out (by
      rintro q (rfl | e)
      · omega
      · cases e))
    unfold gup at he'
    subst he'
    clear hk hx HCL HIT HT0 HCA HB2
    go_wp2_with fail
    exact ⟨rfl, .inr ⟨c, q, HX.out, rfl, HK.out⟩⟩
end
section
open Go.RowKit Go
def Tabs (w : World) : Prop := Lib.Utf8Tabs (Tryz.laysValid_ren.g 3) (Tryz.laysValid_ren.g 4) w
theorem Tabs.next {w w' : World} (h : Tabs w) (hb : Below w.heap.size w w') : Tabs w' := Utf8Tabs_below h hb
def badb (s : ByteArray) : Bool := !Lib.validD s.data.toList
end
section
open Go.RowKit Go
def vld (ys : List Nat) : Bool := Lib.validD (ys.map UInt8.ofNat)
def VldC : Prop := ∀ (w : World) (vp : Value) (ys : List Nat), Tabs w → BSl w vp ys → (∀ y ∈ ys, y < 256) → Calls Tryz.prog 64 #[vp] w fun e w' => e = .returned (.bool (vld ys)) ∧ Below w.heap.size w w'
def jbad (z : Int) (p : Nat) (ys : List Nat) : Int := if z = -1 ∧ vld ys = false then (p : Int) else z
theorem bsl_seti {w : World} {v : Value} {ys : List Nat} {Rb : Nat} {z : Int} {T : TypeId} (hp : BSl w v ys) (hb : w.heap[Rb]? = some (.cells #[.int .i64 z] T (0, 0))) (x : Value) : BSl (w.setCell ⟨Rb, 0, none⟩ x) v ys := by
  obtain ⟨⟨a, cap, rfl, hn, hc⟩, hm, hby⟩ := hp
  refine ⟨⟨a, cap, rfl, hn, ?_⟩, hm, hby⟩
  rcases hc with hc | ⟨b, off, rfl, hc⟩
  · exact .inl hc
  · refine .inr ⟨b, off, rfl, fun j hj => ?_⟩
    have h1 := hc j hj
    by_cases e : b = Rb
    · subst e
      exfalso
      obtain ⟨k, hk⟩ : ∃ k, k = off + j := ⟨_, rfl⟩
      rw [← hk] at h1
      cases k with
      | zero =>
        have h2 := blk_cell (j := 0) (v := .int .i64 z) hb rfl
        rw [h1] at h2
        injection h2 with h2
        injection h2 with h2 _
        cases h2
      | succ k =>
        unfold World.cell? at h1
        simp [hb] at h1
    · exact ((Kp.refl (fun q => q = Rb) w).setCell ⟨Rb, 0, none⟩ x (fun _ => rfl)).cell h1 e
theorem app9 {wz : World} {N1 R : Nat} {a0 : Option Addr} {cap0 : Nat} {xs ys : List Nat} {ap : Option Addr} {cp : Nat} (h : Gtb wz N1 R (.slice a0 xs.length cap0) xs) (hp : BSl wz (.slice ap ys.length cp) ys) (hn : xs.length + ys.length ≤ 140737488351232) (ops : Array Oper) (rest : List Oper) (o : Oper) (ac : Act) (Q : Exit → Act → World → Prop) (s y' : Operand) (h1 : o.guard = none) (h2 : o.op = .call { callee := .builtin .append, args := #[s, y'], argTypes := #[26, 26] }) (h3 : ac.eval s = .slice a0 xs.length cap0) (h4 : ac.eval y' = .slice ap ys.length cp) (h5 : ∀ a' n' c' w', w'.ownsRow N1 5 1 (.slice a' n' c') (xs ++ ys).length (bv (xs ++ ys)) → Kp (fun q => (Value.slice a0 xs.length cap0).ownBlock = some q) wz w' → ((Value.slice a' n' c').ownBlock = (Value.slice a0 xs.length cap0).ownBlock ∨ ∀ q, (Value.slice a' n' c').ownBlock = some q → wz.heap.size ≤ q) → wpList Tryz.prog ops Q rest (ac.put o.dst (.slice a' n' c')) w') : wpList Tryz.prog ops Q (o :: rest) ac wz := by
  have hRL := blk_lt h.v
  have hg := h.g
  refine append_bsl9 h1 s y' h2 N1 _ xs.length xs h3 h.o _ ys h4 hp (by omega) (by omega) (fun v' w' h6 h7 h8 => ?_)
  obtain ⟨a', c', hv', _⟩ := own_formG h6
  subst hv'
  refine h5 _ _ _ w' ?_ (kp_grown9 h7) (h8.imp id (fun e q eq => ?_))
  · rw [List.length_append]
    exact h6
  · rw [e] at eq
    have := Option.some.inj eq
    omega
def Jfn (w : World) (N1 R Rb : Nat) (va : Value) (xs : List Nat) (z' : Int) (w' : World) : Prop := Hid (∃ va', Gtb w' N1 R va' xs ∧ w'.heap[Rb]? = some (.cells #[.int .i64 z'] 3 (0, 0)) ∧ Kp (fun q => q = Rb ∨ q = R ∨ va.ownBlock = some q) w w' ∧ (va'.ownBlock = va.ownBlock ∨ ∀ q, va'.ownBlock = some q → w.heap.size ≤ q))
theorem fin9 {w wz : World} {N1 R Rb : Nat} {a0 : Option Addr} {cap0 : Nat} {xs : List Nat} {z' : Int} (hG : Gtb wz N1 R (.slice a0 xs.length cap0) xs) (hk : Kp (fun q => q = Rb) w wz) (hz : wz.heap[Rb]? = some (.cells #[.int .i64 z'] 3 (0, 0))) (hs : w.heap.size ≤ wz.heap.size) (hR : Rb ≠ R) {zs : List Nat} (a' : Option Addr) (n' c' : Nat) (w4 : World) (h6 : w4.ownsRow N1 5 1 (.slice a' n' c') zs.length (bv zs)) (h7 : Kp (fun q => (Value.slice a0 xs.length cap0).ownBlock = some q) wz w4) (h8 : (Value.slice a' n' c').ownBlock = (Value.slice a0 xs.length cap0).ownBlock ∨ ∀ q, (Value.slice a' n' c').ownBlock = some q → wz.heap.size ≤ q) : Jfn w N1 R Rb (.slice a0 xs.length cap0) zs z' (w4.setCell ⟨R, 0, none⟩ (.slice a' n' c')) := by
  have hne : ∀ q, (Value.slice a0 xs.length cap0).ownBlock = some q → ¬ q = R := fun q e eq => own_not hG.o hG.v (by decide) (eq ▸ e)
  have hRL := blk_lt hG.v
  have hgb := (h7.block R hRL (fun e => hne R e rfl)).trans hG.v
  have hks : Kp (fun q => q = R) w4 (w4.setCell ⟨R, 0, none⟩ (.slice a' n' c')) := (Kp.refl (fun q => q = R) w4).setCell _ _ (fun _ => rfl)
  have hne2 : ∀ q, (Value.slice a' n' c').ownBlock = some q → ¬ q = R := fun q e eq => by
    rcases h8 with h | h
    · exact hne q (h ▸ e) eq
    · have := h q e
      omega
  have hzb := (h7.block Rb (blk_lt hz) (fun e => own_not hG.o hz (by decide) e)).trans hz
  refine ⟨.slice a' n' c', ⟨blk_set 0 _ hgb, hks.owns h6 hne2, hG.g⟩, (hks.block Rb (blk_lt hzb) hR).trans hzb, ?_, h8.imp id (fun h q e => Nat.le_trans hs (h q e))⟩
  exact ((hk.mono (fun _ _ e => .inl e)).trans h7 (fun _ _ e => .inr (.inr e))).trans hks (fun _ _ e => .inr (.inl e))
theorem joined1_any (hV : VldC) {w : World} {N1 R Rb : Nat} {va : Value} {xs : List Nat} {z : Int} (hT : Tabs w) (h : Gtb w N1 R va xs) (hb : w.heap[Rb]? = some (.cells #[.int .i64 z] 3 (0, 0))) (p : Nat) (vp : Value) (ys : List Nat) (hp : BSl w vp ys) (hy : ∀ y ∈ ys, y < 256) (hn : xs.length + ys.length ≤ 140737488351232) : Calls Tryz.prog 63 #[.int .i64 (p : Nat), vp, .pointer (some ⟨Rb, 0, none⟩), .pointer (some ⟨R, 0, none⟩)] w fun e w' => e = .returned (.tuple #[]) ∧ Jfn w N1 R Rb va (xs ++ ys) (jbad z p ys) w' := by
  obtain ⟨a0, cap0, hvn, -⟩ := own_formG h.o
  subst hvn
  have hpf := hp.form
  obtain ⟨ap, cp, rfl, -⟩ := hpf
  have HH := hide h
  have HP := hide hp
  have HB := hide hb
  have HLN := hide hn
  have HRB : Hid (Rb ≠ R) := fun e => by
    have h1 := h.v
    rw [← e, hb] at h1
    injection h1 with h1
    injection h1 with _ h2 _
    exact absurd h2 (by decide)
  have HNE : Hid (∀ q, (Value.slice a0 xs.length cap0).ownBlock = some q → ¬ q = R) := fun q e eq => own_not h.o h.v (by decide) (eq ▸ e)
  have cb : w.cell? ⟨Rb, 0, none⟩ = some (.int .i64 z) := blk_cell (j := 0) hb rfl
  obtain ⟨zz, hzz⟩ : ∃ zz, zz = jbad z p ys := ⟨_, rfl⟩
  rw [← hzz]
  have HZZ : Hid (zz = if z = -1 ∧ vld ys = false then (p : Int) else z) := hzz
  have HVL := hide (hV w _ ys hT hp hy)
  clear h hp hn hb hT hy hzz hV
  by_cases hz : z = -1
  · have g1 : (z == -1) = true := by simp [hz]
    have HZ := hide hz
    clear hz
    go_enter Tryz.func63, Tryz.ntmps63
    go_wp2_with fail
    refine HVL.out.mono ?_
    rintro e w2 ⟨rfl, hb2⟩
    have HB2 := hide hb2
    have HK2 : Hid (Kp (fun q => q = Rb) w w2) := Kp.of_below hb2
    have HP2 := hide (HP.out.move (keep_below hb2))
    have HG2 : Hid (Gtb w2 N1 R (.slice a0 xs.length cap0) xs) := HH.out.keep (Kp.of_below (S := fun _ => False) hb2) (fun _ _ e => e)
    have HZ2 := hide ((hb2.block _ (blk_lt HB.out)).trans HB.out)
    have cb2 : w2.cell? ⟨Rb, 0, none⟩ = some (.int .i64 z) := blk_cell (j := 0) HZ2.out rfl
    clear hb2 HVL cb
    generalize hvy : vld ys = vy at *
    cases vy with
    | true =>
      have HE : Hid (zz = z) := by show _ = _; rw [HZZ.out, if_neg (by simp)]
      have HGZ := hide (HG2.out)
      have c0 : w2.cell? ⟨R, 0, none⟩ = some (.slice a0 xs.length cap0) := blk_cell (j := 0) HGZ.out.v rfl
      have HRL : Hid (R < w2.heap.size) := blk_lt HGZ.out.v
      have HAP := hide (app9 HGZ.out (HP2.out) HLN.out)
      have HFIN := hide (fin9 (z' := zz) (zs := xs ++ ys) HGZ.out (HK2.out) (by rw [HE.out]; exact HZ2.out) (HK2.out.size) HRB.out)
      go_wp2_with (refine HAP.out _ _ _ _ _ _ _ rfl rfl rfl rfl ?_; intro a' n' c' w4 h6 h7 h8; have hgb := (h7.block R HRL.out (fun e => HNE.out R e rfl)).trans HGZ.out.v; have c0b : w4.cell? ⟨R, 0, none⟩ = some (.slice a0 xs.length cap0) := blk_cell (j := 0) hgb rfl; have f0 : w4.frozen? ⟨R, 0, none⟩ = false := blk_frozen 0 hgb)
      go_end0
      exact ⟨rfl, HFIN.out _ _ _ _ h6 h7 h8⟩
    | false =>
      have HE : Hid (zz = (p : Int)) := by show _ = _; rw [HZZ.out, if_pos ⟨HZ.out, rfl⟩]
      have fb : w2.frozen? ⟨Rb, 0, none⟩ = false := blk_frozen 0 HZ2.out
      have hK3 : Kp (fun q => q = Rb) w2 (w2.setCell ⟨Rb, 0, none⟩ (.int .i64 (p : Nat))) := (Kp.refl (fun q => q = Rb) w2).setCell _ _ (fun _ => rfl)
      have HK3 : Hid (Kp (fun q => q = Rb) w (w2.setCell ⟨Rb, 0, none⟩ (.int .i64 (p : Nat)))) := HK2.out.trans hK3 (fun _ _ e => e)
      have HP3 := hide (bsl_seti HP2.out HZ2.out (.int .i64 (p : Nat)))
      have HG3 := hide (HG2.out.keep hK3 (fun q hq e => by
        subst e
        rcases hq with e | e
        · exact HRB.out e
        · exact own_not HG2.out.o HZ2.out (by decide) e))
      have HZ3 := hide (blk_set 0 (.int .i64 (p : Nat)) HZ2.out)
      clear hK3
      have HGZ := hide (HG3.out)
      have c0 : (w2.setCell ⟨Rb, 0, none⟩ (.int .i64 (p : Nat))).cell? ⟨R, 0, none⟩ = some (.slice a0 xs.length cap0) := blk_cell (j := 0) HGZ.out.v rfl
      have HRL : Hid (R < (w2.setCell ⟨Rb, 0, none⟩ (.int .i64 (p : Nat))).heap.size) := blk_lt HGZ.out.v
      have HAP := hide (app9 HGZ.out (HP3.out) HLN.out)
      have HFIN := hide (fin9 (z' := zz) (zs := xs ++ ys) HGZ.out (HK3.out) (by rw [HE.out]; exact HZ3.out) (HK3.out.size) HRB.out)
      go_wp2_with (refine HAP.out _ _ _ _ _ _ _ rfl rfl rfl rfl ?_; intro a' n' c' w4 h6 h7 h8; have hgb := (h7.block R HRL.out (fun e => HNE.out R e rfl)).trans HGZ.out.v; have c0b : w4.cell? ⟨R, 0, none⟩ = some (.slice a0 xs.length cap0) := blk_cell (j := 0) hgb rfl; have f0 : w4.frozen? ⟨R, 0, none⟩ = false := blk_frozen 0 hgb)
      go_end0
      exact ⟨rfl, HFIN.out _ _ _ _ h6 h7 h8⟩
  · have g1 : (z == -1) = false := by simp [hz]
    have HE : Hid (zz = z) := by show _ = _; rw [HZZ.out, if_neg (fun h => hz h.1)]
    clear hz HVL
    go_enter Tryz.func63, Tryz.ntmps63
    have HGZ := hide (HH.out)
    have c0 : w.cell? ⟨R, 0, none⟩ = some (.slice a0 xs.length cap0) := blk_cell (j := 0) HGZ.out.v rfl
    have HRL : Hid (R < w.heap.size) := blk_lt HGZ.out.v
    have HAP := hide (app9 HGZ.out (HP.out) HLN.out)
    have HFIN := hide (fin9 (z' := zz) (zs := xs ++ ys) HGZ.out (Kp.refl _ _) (by rw [HE.out]; exact HB.out) (Nat.le_refl _) HRB.out)
    go_wp2_with (refine HAP.out _ _ _ _ _ _ _ rfl rfl rfl rfl ?_; intro a' n' c' w4 h6 h7 h8; have hgb := (h7.block R HRL.out (fun e => HNE.out R e rfl)).trans HGZ.out.v; have c0b : w4.cell? ⟨R, 0, none⟩ = some (.slice a0 xs.length cap0) := blk_cell (j := 0) hgb rfl; have f0 : w4.frozen? ⟨R, 0, none⟩ = false := blk_frozen 0 hgb)
    go_end0
    exact ⟨rfl, HFIN.out _ _ _ _ h6 h7 h8⟩
end
section
open Go.RowKit Go
def Vtb (N0 : Nat) (w : World) : Prop := ∀ wy, Kp (fun q => N0 ≤ q) w wy → Tabs wy
theorem Vtb.kp {N0 : Nat} {w w' : World} {S : Nat → Prop} (h : Vtb N0 w) (hk : Kp S w w') (hS : ∀ q, S q → N0 ≤ q) : Vtb N0 w' := fun wy hy => h wy ((hk.mono (fun q _ e => hS q e)).trans hy (fun _ _ e => e))
theorem Vtb.now {N0 : Nat} {w : World} (h : Vtb N0 w) : Tabs w := h w (Kp.refl _ _)
theorem Vtb.itg {w w' : World} {N0 g : Nat} {v : Value} {b : List Nat} {dp p op p' op' : Nat} {vn vn' : Value} {ns ns' : List (Nat × Nat)} (h : Vtb N0 w) (hI : Itp w N0 g v b dp p op vn ns) (h2 : Itg w w' N0 g v b dp p' op' vn vn' ns') : Vtb N0 w' := h.kp h2.k (fun q e => e.elim (fun e => e ▸ hI.g) (fun e => (hI.o.lt q e).1))
def clJ (N0 N1 R Rb : Nat) (wx : World) (s : List Nat × Int) (D : Nat → Prop) : Prop := Vtb N0 wx ∧ (∀ y ∈ s.1, y < 256) ∧ ∃ va, Gtb wx N1 R va s.1 ∧ wx.heap[Rb]? = some (.cells #[.int .i64 s.2] 3 (0, 0)) ∧ D = fun q => q = Rb ∨ q = R ∨ va.ownBlock = some q
def stJ (s : List Nat × Int) (p : Nat) (ys : List Nat) : List Nat × Int := (s.1 ++ ys, jbad s.2 p ys)
theorem clo_joined (hV : VldC) {N0 N1 R Rb : Nat} (hN : N0 ≤ N1) (hR : N1 ≤ Rb) : Clo 63 [.pointer (some ⟨Rb, 0, none⟩), .pointer (some ⟨R, 0, none⟩)] N0 (clJ N0 N1 R Rb) stJ (fun s => s.1.length) where
  enter := run_enter9 Tryz.func63 (by kernel_rfl) rfl
  keep := by
    rintro wx wy s D S ⟨h0, h1, va, h, hb, rfl⟩ hk hS hL
    exact ⟨h0.kp hk hL, h1, va, h.keep hk (fun q hq => hS q (.inr hq)), (hk.block _ (blk_lt hb) (hS _ (.inl rfl))).trans hb, rfl⟩
  low := by
    rintro wx s D q ⟨h0, h1, va, h, hb, rfl⟩ hq
    rcases hq with rfl | hq
    · omega
    · exact Nat.le_trans hN (h.low hq)
  typ := by
    rintro wx s D q ⟨h0, h1, va, h, hb, rfl⟩ hq
    rcases hq with rfl | hq
    · exact ⟨_, _, hb, by decide, by decide, by decide⟩
    · exact h.typ hq
  size := fun s _ ys => List.length_append
  call := by
    rintro wx s D vp ys p ⟨h0, h1, va, h, hb, rfl⟩ hp hy hn
    refine (joined1_any hV h0.now h hb p vp ys hp hy hn).mono ?_
    rintro e w' ⟨rfl, hP⟩
    obtain ⟨va', h2, h3, h4, h5⟩ := hP.out
    refine ⟨rfl, _, ⟨h0.kp h4 (fun q hq => ?_), fun y hm => ?_, va', h2, h3, rfl⟩, h4, fun q hq => ?_⟩
    · rcases hq with rfl | hq
      · omega
      · exact Nat.le_trans hN (h.low hq)
    · rcases List.mem_append.1 hm with hm | hm
      · exact h1 y hm
      · exact hy y hm
    · rcases hq with hq | hq | hq
      · exact .inl (.inl hq)
      · exact .inl (.inr (.inl hq))
      · rcases h5 with h5 | h5
        · exact .inl (.inr (.inr (h5 ▸ hq)))
        · exact .inr (h5 q hq)
def JonP (w : World) (N0 g : Nat) (v : Value) (b : List Nat) (dp op : Nat) (vn : Value) (r : Lx ((List Nat × Int) × List (Nat × Nat) × Nat)) (e : Ending) (w' : World) : Prop := (∃ x vx, r = .ok x ∧ e = .returned (.tuple #[.string (nstr x.1.1), .int .i64 x.1.2]) ∧ Itg w w' N0 g v b dp x.2.2 op vn vx x.2.1) ∨ ∃ c q, r = .error (c, q) ∧ e = gup c q ∧ Kp (fun q => q = g ∨ vn.ownBlock = some q) w w'
theorem joined9_any (hV : VldC) {w : World} {N0 g : Nat} {v : Value} {b : List Nat} {dp p op : Nat} {vn : Value} {ns : List (Nat × Nat)} (hI : Itp w N0 g v b dp p op vn ns) (hT : Vtb N0 w) (hq : ∀ x ∈ b, x < 256) (h : HR) (J : Nat) (hJ : b.length + 1 ≤ J) (hm : h.m = 2 ∨ h.m = 3) (hd : Hdo b dp op (h, p)) (hu : h.u ≤ p) (hn : ns.length + 2 * (b.length - p) ≤ 999990) : Calls Tryz.prog 42 #[.pointer (some ⟨g, 0, none⟩), h.val] w (JonP w N0 g v b dp op vn (lallg stJ b dp J op p h ([], -1) ns)) := by
  obtain ⟨LS, hLS⟩ : ∃ LS, LS = lallg stJ b dp J op p h ([], -1) ns := ⟨_, rfl⟩
  rw [← hLS]
  obtain ⟨hm', hi, hn', hu', hs, he⟩ := h
  obtain ⟨w1, hw1⟩ : ∃ w1, w1 = w.alloc (.cells #[.int .i64 (hm' : Nat), .int .i64 (hi : Nat), .int .u64 (hn' : Nat), .int .i64 (hu' : Nat), .bool hs] 66) := ⟨_, rfl⟩
  obtain ⟨w2, hw2⟩ : ∃ w2, w2 = w1.alloc (.cells #[.slice none 0 0] 26) := ⟨_, rfl⟩
  obtain ⟨w3, hw3⟩ : ∃ w3, w3 = w2.alloc (.cells #[.int .i64 (-1)] 3) := ⟨_, rfl⟩
  have hz1 : w1.heap.size = w.heap.size + 1 := by rw [hw1]; simp
  have hz2 : w2.heap.size = w.heap.size + 1 + 1 := by rw [hw2]; simp [hz1]
  have hb1 : Below w.heap.size w w1 := hw1 ▸ below_alloc4 w _
  have hb2 : Below w1.heap.size w1 w2 := hw2 ▸ below_alloc4 w1 _
  have hb3 : Below w2.heap.size w2 w3 := hw3 ▸ below_alloc4 w2 _
  have hb23 : Below w1.heap.size w1 w3 := hb2.trans (hb3.mono hb2.size)
  have HB3 : Hid (Below w.heap.size w w3) := hb1.trans (hb23.mono hb1.size)
  have hg1 := heap_alloc_new w (.cells #[.int .i64 (hm' : Nat), .int .i64 (hi : Nat), .int .u64 (hn' : Nat), .int .i64 (hu' : Nat), .bool hs] 66)
  rw [← hw1] at hg1
  have HHD := hide ((hb23.block _ (blk_lt hg1)).trans hg1)
  have hg2 := heap_alloc_new w1 (.cells #[.slice none 0 0] 26)
  rw [← hw2, hz1] at hg2
  have hg2' := (hb3.block _ (blk_lt hg2)).trans hg2
  have hg3 := heap_alloc_new w2 (.cells #[.int .i64 (-1)] 3)
  rw [← hw3, hz2] at hg3
  have HIT := hide (hI.next HB3.out).i
  have HN0 : Hid (N0 ≤ w.heap.size) := by have h1 := hI.g; have h2 := blk_lt hI.r.blk; show _ ≤ _; omega
  have HT0 : Hid (clJ N0 w.heap.size (w.heap.size + 1) (w.heap.size + 1 + 1) w3 ([], -1) (fun q => q = w.heap.size + 1 + 1 ∨ q = w.heap.size + 1 ∨ (Value.slice none 0 0).ownBlock = some q)) := ⟨hT.kp (Kp.of_below (S := fun _ => False) HB3.out) (fun _ e => e.elim), (fun y hy => by cases hy), _, ⟨hg2', World.ownsRow_nil _ _ _ _, by omega⟩, hg3, rfl⟩
  have HBL := hide hI.r.hb
  have HCL : Hid (Calls Tryz.prog 40 #[.pointer (some ⟨g, 0, none⟩), .agg #[.int .i64 (hm' : Nat), .int .i64 (hi : Nat), .int .u64 (hn' : Nat), .int .i64 (hu' : Nat), .bool hs], .func (.func 63) #[] #[.pointer (some ⟨w.heap.size + 1 + 1, 0, none⟩), .pointer (some ⟨w.heap.size + 1, 0, none⟩)]] w3 (EpC w3 N0 g v b dp op vn (clJ N0 w.heap.size (w.heap.size + 1) (w.heap.size + 1 + 1)) (fun q => q = w.heap.size + 1 + 1 ∨ q = w.heap.size + 1 ∨ (Value.slice none 0 0).ownBlock = some q) LS)) := by rw [hLS]; exact eachPart9c_any (clo_joined hV HN0.out (by omega)) HIT.out hq HT0.out ⟨hm', hi, hn', hu', hs, he⟩ J hJ hm hd hu hn (by show 0 + _ ≤ _; have := HBL.out; omega)
  have HI := hide infoHd
  have HAG : Hid (∀ w, (isAgg 66).run Tryz.prog w = .ok true w) := aggHd
  have HCA : Hid (∀ j x, (#[.int .i64 (hm' : Nat), .int .i64 (hi : Nat), .int .u64 (hn' : Nat), .int .i64 (hu' : Nat), .bool hs] : Array Value)[j]? = some x → w3.cell? ⟨w.heap.size, 0 + j, none⟩ = some x) := fun j x hj => by rw [Nat.zero_add]; exact blk_cell HHD.out hj
  simp only [HR.val]
  clear hI hq hJ hm hd hu hn hLS hb1 hb2 hb3 hb23 hg1 hg2 hg2' hg3 hz1 hz2 HHD hT hV
  go_enter Tryz.func42, Tryz.ntmps42
  go_upto_region 3 with fail
  rw [← hw1, ← hw2, ← hw3]
  clear hw1 hw2 hw3
  go_wp2_with (refine wpList_aggAt rfl rfl HI.out HAG.out w.heap.size 0 #[.int .i64 (hm' : Nat), .int .i64 (hi : Nat), .int .u64 (hn' : Nat), .int .i64 (hu' : Nat), .bool hs] rfl rfl HCA.out ?_)
  refine HCL.out.mono ?_
  rintro e w4 (⟨x, vx, D, hx, rfl, hO⟩ | ⟨c, q, hx, he', hk⟩)
  · as_aux_lemma =>
    have HX := hide hx
    have HG := hide (hO.itgs HB3.out (by
      rintro q (rfl | rfl | e)
      · omega
      · omega
      · cases e))
    obtain ⟨-, h256, va, ht, hbd, -⟩ := hO.t
    obtain ⟨⟨xs, z⟩, ms, q⟩ := x
    have c0 : ∀ t' : Ext w4, t'.w'.cell? ⟨w.heap.size + 1, 0, none⟩ = some va := fun t' => keep_below t'.h _ _ (blk_cell (j := 0) ht.v rfl)
    have cz : ∀ t' : Ext w4, t'.w'.cell? ⟨w.heap.size + 1 + 1, 0, none⟩ = some (.int .i64 z) := fun t' => keep_below t'.h _ _ (blk_cell (j := 0) hbd rfl)
    have cv : ∀ t' : Ext w4, (convert 26 9 va).run Tryz.prog t'.w' = .ok (.string (nstr xs)) t'.w' := fun t' => ((BSl.own ht.o h256).move (keep_below t'.h)).text
    clear hO ht hbd h256 hx HCL HIT HT0 HCA HB3
    go_upto_region 4 with fail
    refine region_ext (by kernel_rfl) (by kernel_rfl) ?_
    with_reducible refine wpQuiet_step (fun K hK => ?_)
    go_simp
    with_reducible refine hK _ ?_
    clear hK K
    with_reducible refine wpQuiet_step (fun K hK => ?_)
    go_simp
    with_reducible refine hK _ ?_
    clear hK K
    with_reducible refine wpQuiet_step (fun K hK => ?_)
    go_simp
    with_reducible refine hK _ ?_
    clear hK K
    with_reducible refine wpQuiet_step (fun K hK => ?_)
    go_simp
    with_reducible refine hK _ ?_
    clear hK K
    with_reducible refine wpQuiet_step (fun K hK => ?_)
    go_simp
    with_reducible refine hK _ ?_
    clear hK K
    refine wpQuiet_nil ?_
    rintro wx ⟨t2, rfl⟩
    have HG2 := hide (HG.out.trans (HG.out.i.next t2.h))
    clear c0 cz cv
    go_wp2_with fail
    refine bodyPost_ret (v := .tuple #[.string (nstr xs), .int .i64 z]) ((results_tmp2 (t := 4) (u := 5) rfl _ _ _).trans ?_) rfl (.inl ⟨_, vx, HX.out, rfl, HG2.out⟩)
    rfl
  · as_aux_lemma =>
    have HX := hide hx
    have HK := hide (kp_d0 hk HB3.out (by
      rintro q (rfl | rfl | e)
      · omega
      · omega
      · cases e))
    unfold gup at he'
    subst he'
    clear hk hx HCL HIT HT0 HCA HB3
    go_wp2_with fail
    exact ⟨rfl, .inr ⟨c, q, HX.out, rfl, HK.out⟩⟩
end
section
open Go.RowKit Go
theorem lprtg_inv {σ : Type} {st : σ → Nat → List Nat → σ} {b : List Nat} {dp mj op : Nat} {P : σ → Prop} (hst : ∀ s p ys, (∀ y ∈ ys, y ∈ b) → P s → P (st s p ys)) : ∀ (j p : Nat) (s : σ) (ns : List (Nat × Nat)) (x : σ × List (Nat × Nat) × Nat), P s → lprtg st b dp mj op j p s ns = .ok x → P x.1
  | 0, _, _, _, _, _, h => by cases h
  | j + 1, p, s, ns, x, hs, h => by
    unfold lprtg at h
    split at h
    · injection h with h
      subst h
      exact hs
    · unfold lbind at h
      split at h
      · cases h
      · exact lprtg_inv hst j _ _ _ x (hst _ _ _ (fun y hy => List.mem_of_mem_drop (List.mem_of_mem_take hy)) hs) h
theorem lallg_inv {σ : Type} {st : σ → Nat → List Nat → σ} {b : List Nat} {dp J op p : Nat} {h : HR} {s : σ} {ns : List (Nat × Nat)} {x : σ × List (Nat × Nat) × Nat} {P : σ → Prop} (hst : ∀ s p ys, (∀ y ∈ ys, y ∈ b) → P s → P (st s p ys)) (hs : P s) (hx : lallg st b dp J op p h s ns = .ok x) : P x.1 := by
  unfold lallg at hx
  split at hx
  · exact lprtg_inv hst _ _ _ _ _ hs hx
  · injection hx with hx
    subst hx
    exact hst _ _ _ (fun y hy => List.mem_of_mem_drop (List.mem_of_mem_take hy)) hs
theorem jbad_nat {z : Int} (h : z = -1 ∨ ∃ n : Nat, z = n) (p : Nat) (ys : List Nat) : jbad z p ys = -1 ∨ ∃ n : Nat, jbad z p ys = n := by
  unfold jbad
  split
  · exact .inr ⟨p, rfl⟩
  · exact h
theorem joined_nat {b : List Nat} {dp J op p : Nat} {h : HR} {ns : List (Nat × Nat)} {x : (List Nat × Int) × List (Nat × Nat) × Nat} (hx : lallg stJ b dp J op p h ([], -1) ns = .ok x) : x.1.2 = -1 ∨ ∃ n : Nat, x.1.2 = n :=
  lallg_inv (P := fun s : List Nat × Int => s.2 = -1 ∨ ∃ n : Nat, s.2 = (n : Int)) (fun _ p ys _ hs => jbad_nat hs p ys) (.inl rfl) hx
def ltxt (b : List Nat) (dp J op p : Nat) (h : HR) (ns : List (Nat × Nat)) : Lx (List Nat × List (Nat × Nat) × Nat) := lbind (lallg stJ b dp J op p h ([], -1) ns) fun x => if x.1.2 = -1 then .ok (x.1.1, x.2.1, x.2.2) else .error (95, x.1.2.toNat)
def TxtP (w : World) (N0 g : Nat) (v : Value) (b : List Nat) (dp op : Nat) (vn : Value) (r : Lx (List Nat × List (Nat × Nat) × Nat)) (e : Ending) (w' : World) : Prop := (∃ x vx, r = .ok x ∧ e = .returned (.string (nstr x.1)) ∧ Itg w w' N0 g v b dp x.2.2 op vn vx x.2.1) ∨ ∃ c q, r = .error (c, q) ∧ e = gup c q ∧ Kp (fun q => q = g ∨ vn.ownBlock = some q) w w'
theorem text9_any (hV : VldC) {w : World} {N0 g : Nat} {v : Value} {b : List Nat} {dp p op : Nat} {vn : Value} {ns : List (Nat × Nat)} (hI : Itp w N0 g v b dp p op vn ns) (hT : Vtb N0 w) (hq : ∀ x ∈ b, x < 256) (h : HR) (J : Nat) (hJ : b.length + 1 ≤ J) (hm : h.m = 2 ∨ h.m = 3) (hd : Hdo b dp op (h, p)) (hu : h.u ≤ p) (hn : ns.length + 2 * (b.length - p) ≤ 999990) : Calls Tryz.prog 28 #[.pointer (some ⟨g, 0, none⟩), h.val] w (TxtP w N0 g v b dp op vn (ltxt b dp J op p h ns)) := by
  obtain ⟨LS, hLS⟩ : ∃ LS, LS = ltxt b dp J op p h ns := ⟨_, rfl⟩
  rw [← hLS]
  obtain ⟨hm', hi, hn', hu', hs, he⟩ := h
  have HLS : Hid (LS = lbind (lallg stJ b dp J op p ⟨hm', hi, hn', hu', hs, he⟩ ([], -1) ns) fun x => if x.1.2 = -1 then .ok (x.1.1, x.2.1, x.2.2) else .error (95, x.1.2.toNat)) := hLS
  obtain ⟨w1, hw1⟩ : ∃ w1, w1 = w.alloc (.cells #[.int .i64 (hm' : Nat), .int .i64 (hi : Nat), .int .u64 (hn' : Nat), .int .i64 (hu' : Nat), .bool hs] 66) := ⟨_, rfl⟩
  have hb1 : Below w.heap.size w w1 := hw1 ▸ below_alloc4 w _
  have hg1 := heap_alloc_new w (.cells #[.int .i64 (hm' : Nat), .int .i64 (hi : Nat), .int .u64 (hn' : Nat), .int .i64 (hu' : Nat), .bool hs] 66)
  rw [← hw1] at hg1
  have HI1 := hide (hI.next hb1)
  have HCL : Hid (Calls Tryz.prog 42 #[.pointer (some ⟨g, 0, none⟩), .agg #[.int .i64 (hm' : Nat), .int .i64 (hi : Nat), .int .u64 (hn' : Nat), .int .i64 (hu' : Nat), .bool hs]] w1 (JonP w1 N0 g v b dp op vn (lallg stJ b dp J op p ⟨hm', hi, hn', hu', hs, he⟩ ([], -1) ns))) := joined9_any hV HI1.out.i (hT.itg hI HI1.out) hq ⟨hm', hi, hn', hu', hs, he⟩ J hJ hm hd hu hn
  have HI := hide infoHd
  have HAG : Hid (∀ w, (isAgg 66).run Tryz.prog w = .ok true w) := aggHd
  have HCA : Hid (∀ j x, (#[.int .i64 (hm' : Nat), .int .i64 (hi : Nat), .int .u64 (hn' : Nat), .int .i64 (hu' : Nat), .bool hs] : Array Value)[j]? = some x → w1.cell? ⟨w.heap.size, 0 + j, none⟩ = some x) := fun j x hj => by rw [Nat.zero_add]; exact blk_cell hg1 hj
  simp only [HR.val]
  clear hI hq hJ hm hd hu hn hLS hb1 hg1 hT hV
  go_enter Tryz.func28, Tryz.ntmps28
  go_upto_region 1 with fail
  rw [← hw1]
  clear hw1
  go_wp2_with (refine wpList_aggAt rfl rfl HI.out HAG.out w.heap.size 0 #[.int .i64 (hm' : Nat), .int .i64 (hi : Nat), .int .u64 (hn' : Nat), .int .i64 (hu' : Nat), .bool hs] rfl rfl HCA.out ?_)
  refine HCL.out.mono ?_
  rintro e w2 (⟨x, vx, hx, rfl, hO⟩ | ⟨c, q, hx, he', hk⟩)
  · have HNN := hide (joined_nat hx)
    rw [hx] at HLS
    have HG := hide (HI1.out.trans hO)
    obtain ⟨⟨xs, z⟩, ms, q⟩ := x
    have HL2 : Hid (LS = if z = -1 then .ok (xs, ms, q) else .error (95, z.toNat)) := HLS.out
    clear hO hx HCL HCA HI1 HLS
    by_cases hz : z = -1
    · as_aux_lemma =>
      have HL3 : Hid (LS = .ok (xs, ms, q)) := by show _ = _; rw [HL2.out, if_pos hz]
      have g1 : (z != -1) = false := by simp [hz]
      clear hz HL2 HNN
      go_wp2_with fail
      exact bodyPost_ret (v := .string (nstr xs)) (results_tmp (t := 4) rfl _ _ _) rfl (.inl ⟨_, vx, HL3.out, rfl, HG.out⟩)
    · as_aux_lemma =>
      obtain ⟨n, hn⟩ := HNN.out.resolve_left hz
      replace hn : z = (n : Int) := hn
      subst hn
      have HL3 : Hid (LS = .error (95, n)) := by show _ = _; rw [HL2.out, if_neg hz]; rfl
      have g1 : ((n : Int) != -1) = true := by rw [bne_iff_ne]; exact hz
      have HKE := hide HG.out.k
      have HGU := hide (giveUp_any w2 95 n)
      clear hz HL2 HNN HG
      go_wp2_with fail
      refine HGU.out.mono ?_
      rintro e w3 ⟨rfl, rfl⟩
      go_wp2_with fail
      exact ⟨rfl, .inr ⟨95, n, HL3.out, rfl, HKE.out⟩⟩
  · as_aux_lemma =>
    rw [hx] at HLS
    have HX : Hid (LS = .error (c, q)) := HLS.out
    have HK : Hid (Kp (fun q => q = g ∨ vn.ownBlock = some q) w w2) := HI1.out.k.trans hk (fun _ _ e => e)
    unfold gup at he'
    subst he'
    clear hk hx HCL HCA HI1 HLS
    go_wp2_with fail
    exact ⟨rfl, .inr ⟨c, q, HX.out, rfl, HK.out⟩⟩
end
section
open Go.RowKit Go
theorem check_any (w : World) (l : Lk) (hl : Lkb l) : Calls Tryz.prog 132 #[lkv l] w fun e w' => e = .returned (.int .i64 (if lok l then 0 else 40)) ∧ Below w.heap.size w w' := by
  generalize hR : (if lok l then (0 : Int) else 40) = R
  have HR := hide hR
  clear hR
  have HL := hide hl
  have HLO : Hid (∀ x ∈ (⟨0, 112, 18, l.d⟩ : Lk).d, x < 256) := hl.d
  have HOL : Hid (lcs ⟨0, 112, 18, l.d⟩ = #[.int .i64 0, .int .u64 112, .int .u64 18, .string (nstr l.d)]) := rfl
  have HT : Hid ((w.alloc (.cells #[.int .i64 l.v, .int .u64 (l.c : Nat), .int .u64 (l.h : Nat), .string (nstr l.d)] 37)).heap[w.heap.size]? = some (.cells (lcs l) 37 (0, 0))) := heap_alloc_new w _
  have HBQ := hide (below_alloc4 w (.cells #[.int .i64 l.v, .int .u64 (l.c : Nat), .int .u64 (l.h : Nat), .string (nstr l.d)] 37))
  simp only [lkv]
  go_enter Tryz.func132, Tryz.ntmps132
  go_wp2_with fail
  generalize w.alloc (.cells #[.int .i64 l.v, .int .u64 (l.c : Nat), .int .u64 (l.h : Nat), .string (nstr l.d)] 37) = w0 at *
  go_cut [3] (fun c wx => c = .bool (decide (l = ⟨0, 112, 18, l.d⟩) && decide (okd l.h l.d)) ∧ Hid (Below w0.heap.size w0 wx))
  case first => as_aux_lemma =>
    have q3 : ∀ t : Ext w0, t.w'.cell? ⟨w.heap.size, 3, none⟩ = some (.string (nstr l.d)) := fun t => Ext.cell (blk_cell HT.out rfl) t
    have HQ : Hid (∀ wx, (∃ t : Ext w0, wx = t.w') → wx.heap[w.heap.size]? = some (.cells (lcs l) 37 (0, 0))) := by
      rintro _ ⟨t, rfl⟩
      exact (t.h.block _ (blk_lt HT.out)).trans HT.out
    have HCO : Hid (∀ t : Ext w0, Calls Tryz.prog 103 #[.string (nstr l.d)] t.w' fun e w'' => e = .returned (.agg (lcs ⟨0, 112, 18, l.d⟩)) ∧ ∃ t' : Ext w0, w'' = t'.w') := fun t => Calls.ext_below (old_any t.w' (nstr l.d))
    have HCF : Hid (∀ t : Ext w0, Calls Tryz.prog 147 #[.agg (lcs l)] t.w' fun e w'' => e = .returned (.bool (decide (okd l.h l.d))) ∧ ∃ t' : Ext w0, w'' = t'.w') := fun t => Calls.ext_below (fits4_any t.w' l HL.out)
    have HEQ : Hid (∀ wx, (∃ t : Ext w0, wx = t.w') → (Op.equalIn 10000 37 (.agg (lcs l)) (.agg (lcs ⟨0, 112, 18, l.d⟩))).run Tryz.prog wx = .ok (decide (l = ⟨0, 112, 18, l.d⟩)) wx) := fun wx _ => eqlk wx HL.out.d HLO.out
    generalize hbb : decide (l = ⟨0, 112, 18, l.d⟩) = bb at *
    generalize lcs ⟨0, 112, 18, l.d⟩ = ol at *
    have HCN : Hid ((lcs l).size = 4) := rfl
    generalize lcs l = cl at *
    clear hbb
    cases bb
    · refine region_ext (by kernel_rfl) (by kernel_rfl) ?_
      repeat (
        refine wpQuiet_step (fun K hK => ?_)
        first
          | (refine qstep_link rfl rfl w.heap.size cl rfl HCN.out HQ.out (hK _ ?_); clear hK K)
          | (refine qstep_eqlk rfl rfl cl ol false rfl rfl HEQ.out (hK _ ?_); clear hK K)
          | (go_simp
             first
               | (refine hK _ ?_; clear hK K)
               | (apply Exists.intro
                  refine ⟨fun _ => ?_, hK _ ?_⟩
                  (first
                    | (go_at_call 103; exact HCO.out _)
                    | (go_at_call 147; exact HCF.out _))
                  clear hK K)))
      refine wpQuiet_nil ?_
      rintro _ ⟨tq, rfl⟩
      go_wp2_with fail
      go_meet
      case rel => exact ⟨rfl, tq.h⟩
    · refine region_ext (by kernel_rfl) (by kernel_rfl) ?_
      repeat (
        refine wpQuiet_step (fun K hK => ?_)
        first
          | (refine qstep_link rfl rfl w.heap.size cl rfl HCN.out HQ.out (hK _ ?_); clear hK K)
          | (refine qstep_eqlk rfl rfl cl ol true rfl rfl HEQ.out (hK _ ?_); clear hK K)
          | (go_simp
             first
               | (refine hK _ ?_; clear hK K)
               | (apply Exists.intro
                  refine ⟨fun _ => ?_, hK _ ?_⟩
                  (first
                    | (go_at_call 103; exact HCO.out _)
                    | (go_at_call 147; exact HCF.out _))
                  clear hK K)))
      refine wpQuiet_nil ?_
      rintro _ ⟨tq, rfl⟩
      go_wp2_with fail
      go_meet
      case rel => exact ⟨rfl, tq.h⟩
  case rest => as_aux_lemma =>
    obtain ⟨rfl, hb1⟩ := hcut
    have HT1 : Hid (wc.heap[w.heap.size]? = some (.cells (lcs l) 37 (0, 0))) := (hb1.out.block _ (blk_lt HT.out)).trans HT.out
    have HB1 : Hid (Below w.heap.size w wc) := HBQ.out.trans (hb1.out.mono HBQ.out.size)
    have HK : Hid (lok l ↔ (l = ⟨0, 112, 18, l.d⟩ ∧ okd l.h l.d) ∨ (l.v = 1 ∧ l.c < 9223372036854775808 ∧ okd l.h l.d)) := by
      show _ ↔ _
      unfold lok
      rw [lk_ext]
      constructor
      · rintro (⟨h1, h2, h3, h4⟩ | h)
        · exact .inl ⟨⟨h1, h2, h3, rfl⟩, .inl ⟨h3, h4⟩⟩
        · exact .inr h
      · rintro (⟨⟨h1, h2, h3, _⟩, h | h⟩ | h)
        · exact .inl ⟨h1, h2, h3, h.2⟩
        · simp only at h1 h2 h3
          omega
        · exact .inr h
    clear hb1 HT HBQ HOL HLO
    by_cases hc1 : l = ⟨0, 112, 18, l.d⟩ ∧ okd l.h l.d
    · as_aux_lemma =>
      have e1 : (decide (l = ⟨0, 112, 18, l.d⟩) && decide (okd l.h l.d)) = true := by rw [decide_eq_true hc1.1, decide_eq_true hc1.2]; rfl
      have HZ : Hid (R = 0) := by show _ = _; rw [← HR.out, if_pos (HK.out.2 (.inl hc1))]
      rw [e1]
      clear e1 hc1 HR HK
      go_wp2_with fail
      go_ret
      exact ⟨by rw [HZ.out]; rfl, HB1.out⟩
    · have e1 : (decide (l = ⟨0, 112, 18, l.d⟩) && decide (okd l.h l.d)) = false := by
        rw [Bool.and_eq_false_iff, decide_eq_false_iff_not, decide_eq_false_iff_not]
        exact Decidable.not_and_iff_or_not.1 hc1
      rw [e1]
      have HE : Hid (lok l ↔ (l.v = 1 ∧ l.c < 9223372036854775808 ∧ okd l.h l.d)) := HK.out.trans ⟨fun h => h.resolve_left hc1, .inr⟩
      have q0 : wc.cell? ⟨w.heap.size, 0, none⟩ = some (.int .i64 l.v) := blk_cell HT1.out rfl
      have q1 : wc.cell? ⟨w.heap.size, 1, none⟩ = some (.int .u64 (l.c : Nat)) := blk_cell HT1.out rfl
      have q2 : wc.cell? ⟨w.heap.size, 2, none⟩ = some (.int .u64 (l.h : Nat)) := blk_cell HT1.out rfl
      have q3 : wc.cell? ⟨w.heap.size, 3, none⟩ = some (.string (nstr l.d)) := blk_cell HT1.out rfl
      have HF := hide (fits4_any wc l HL.out)
      simp only [lkv] at HF
      have HCL := hide HL.out.c
      clear e1 hc1 HK HL hl HT1
      generalize nstr l.d = S at *
      obtain ⟨v, c, h, d⟩ := l
      simp only at *
      by_cases hv : v = 1
      · subst hv
        generalize hn : (c : Int) = n at *
        have HN := hide hn
        clear hn
        by_cases hc63 : n < 9223372036854775808
        · as_aux_lemma =>
          have HZ : Hid (R = if okd h d then 0 else 40) := by
            show _ = _
            rw [← HR.out]
            have := HN.out
            by_cases hk : okd h d
            · rw [if_pos hk, if_pos (HE.out.2 ⟨rfl, by omega, hk⟩)]
            · rw [if_neg hk, if_neg (fun e => hk (HE.out.1 e).2.2)]
          clear HE HR HN
          go_wp2_with fail
          refine HF.out.mono ?_
          rintro e w2 ⟨rfl, hb2⟩
          have HB2 : Hid (Below w.heap.size w w2) := HB1.out.trans (hb2.mono HB1.out.size)
          clear hb2 HF
          by_cases hk : okd h d
          · rw [decide_eq_true hk]
            rw [if_pos hk] at HZ
            go_wp2_with fail
            go_ret
            exact ⟨by rw [HZ.out]; rfl, HB2.out⟩
          · rw [decide_eq_false hk]
            rw [if_neg hk] at HZ
            go_wp2_with fail
            go_ret
            exact ⟨by rw [HZ.out]; rfl, HB2.out⟩
        · as_aux_lemma =>
          have g2' : (9223372036854775808 : Int) ≤ n := by omega
          have HZ : Hid (R = 40) := by show _ = _; rw [← HR.out, if_neg (fun e => hc63 (by have := (HE.out.1 e).2.1; have := HN.out; omega))]
          clear HE HR HN hc63
          go_wp2_with fail
          go_ret
          exact ⟨by rw [HZ.out]; rfl, HB1.out⟩
      · as_aux_lemma =>
        have g1 : (v == 1) = false := beq_eq_false_iff_ne.2 hv
        have HZ : Hid (R = 40) := by show _ = _; rw [← HR.out, if_neg (fun e => hv (HE.out.1 e).1)]
        clear HE HR hv
        go_wp2_with fail
        go_ret
        exact ⟨by rw [HZ.out]; rfl, HB1.out⟩
end
section
open Go.RowKit Go
theorem end_c2 {fn : Func} {p q : Tmp} {T : TypeId} {fs : Array Field} {wx : World} {R : Nat} {cs : Array Value} {x : Value} {tmps : Array Value} (hf : fn.results = #[.cell p T, .tmp q]) (hu : Tryz.prog.underlying T = some (.struct fs)) {n : Nat} (hi : (Tryz.prog.info? T).map (·.size) = some n) (hn : cs.size = n)
    (hr : wx.heap[R]? = some (.cells cs T (0, 0))) (hp : tmps.getD p undef = .pointer (some ⟨R, 0, none⟩)) (hx : tmps.getD q undef = x) : (results fn tmps).run Tryz.prog wx = .ok (.tuple #[.agg cs, x]) wx := by
  refine (results_cell_tmp hf _ _ _).trans ?_
  rw [hp, hx]
  have h1 := run_loadVar_row (P := Tryz.prog) wx R T T cs (0, 0) _ hr hu rfl (by rw [hn]; exact hi)
  simp [asAddr, h1, Result.andThen]
theorem end_c3 {fn : Func} {p q s : Tmp} {T : TypeId} {fs : Array Field} {wx : World} {R : Nat} {cs : Array Value} {x y : Value} {tmps : Array Value} (hf : fn.results = #[.cell p T, .tmp q, .tmp s]) (hu : Tryz.prog.underlying T = some (.struct fs)) {n : Nat} (hi : (Tryz.prog.info? T).map (·.size) = some n) (hn : cs.size = n)
    (hr : wx.heap[R]? = some (.cells cs T (0, 0))) (hp : tmps.getD p undef = .pointer (some ⟨R, 0, none⟩)) (hx : tmps.getD q undef = x) (hy : tmps.getD s undef = y) : (results fn tmps).run Tryz.prog wx = .ok (.tuple #[.agg cs, x, y]) wx := by
  refine (results_c3 hf _ _ _).trans ?_
  rw [hp, hx, hy]
  have h1 := run_loadVar_row (P := Tryz.prog) wx R T T cs (0, 0) _ hr hu rfl (by rw [hn]; exact hi)
  simp [asAddr, h1, Result.andThen]
theorem wpList_storeLk {ops : Array Oper} {rest : List Oper} {o : Oper} {a : Act} {Q : Exit → Act → World → Prop} {w : World} {p x : Operand} (hgd : o.guard = none) (ho : o.op = .store 37 p x) (g : Nat) (old : Array Value) (l : Lk)
    (hp : a.eval p = .pointer (some ⟨g, 0, none⟩)) (hx : a.eval x = .agg (lcs l)) (hn : old.size = 4) (hg : w.heap[g]? = some (.cells old 37 (0, 0))) (h : wpList Tryz.prog ops Q rest (a.put o.dst undef) (w.setRow g (lcs l))) : wpList Tryz.prog ops Q (o :: rest) a w :=
  wpList_storeRow hgd ho g old (lcs l) 37 hp hx hg info61 (by rw [hn]; rfl) (by kernel_rfl) h
end
section
open Go.RowKit Go
def lend (xs : List Nat) : Nat × List Nat × Nat × Nat := if (dread xs).2.2.2 = 0 then dread xs else (0, [], 0, lerr (dread xs).2.2.2)
theorem lend_third (v : Int) (c at' : Nat) (b : List Nat) : lthird v c at' b = if (lend (b.drop at')).2.2.2 = 0 then (⟨v, c, (lend (b.drop at')).1, (lend (b.drop at')).2.1⟩, at' + (lend (b.drop at')).2.2.1, 0) else (Lk.none, 0, (lend (b.drop at')).2.2.2) := by
  unfold lthird lend
  by_cases h : (dread (b.drop at')).2.2.2 = 0
  · rw [if_pos h, if_pos h, if_pos h]
  · rw [if_neg h, if_neg h, if_neg]
    unfold lerr
    simp only
    split <;> omega
theorem lending_any (w : World) (v : Value) (xs : List Nat) (hb : BSl w v xs) :
    Calls Tryz.prog 102 #[v] w fun e w' => ∃ v', e = .returned (.tuple #[.int .u64 ((lend xs).1 : Nat), v', .int .i64 ((lend xs).2.2.1 : Nat), .int .i64 ((lend xs).2.2.2 : Nat)]) ∧ w'.ownsRow w.heap.size 5 1 v' (lend xs).2.1.length (bv (lend xs).2.1) ∧ Below w.heap.size w w' := by
  have HB := hide hb
  obtain ⟨⟨a, cap, rfl, hn, hc⟩, hmax, hby⟩ := hb
  have HLE : Hid (lend xs = if (dread xs).2.2.2 = 0 then dread xs else (0, [], 0, lerr (dread xs).2.2.2)) := rfl
  clear hn hc hby
  go_enter Tryz.func102, Tryz.ntmps102
  go_wp2_with fail
  refine (dread_any w _ xs HB.out).mono ?_
  rintro e w1 ⟨v1, rfl, ho1, hb1⟩
  have HB1 := hide hb1
  generalize dread xs = r at *
  obtain ⟨rh, rdd, rn, re⟩ := r
  simp only at ho1 HLE ⊢
  have HO1 := hide ho1
  obtain ⟨a1, c1, hv1, _⟩ := own_form ho1
  subst hv1
  clear ho1 hb1
  by_cases h0 : re = 0
  · subst h0
    have HZ : Hid (lend xs = (rh, rdd, rn, 0)) := by show _ = _; rw [HLE.out, if_pos rfl]
    clear HLE
    go_wp2_with fail
    exact bodyPost_ret (results_four rfl _ _ _) rfl ⟨_, by rw [HZ.out]; rfl, by rw [HZ.out]; exact HO1.out, HB1.out⟩
  · have g0 : ((re : Int) == 0) = false := beq_eq_false_iff_ne.2 (by omega)
    by_cases h1 : re = 32
    · subst h1
      have HZ : Hid (lend xs = (0, [], 0, 42)) := by show _ = _; rw [HLE.out]; rfl
      clear HLE
      go_wp2_with fail
      exact bodyPost_ret (results_four rfl _ _ _) rfl ⟨_, by rw [HZ.out]; rfl, by rw [HZ.out]; exact World.ownsRow_nil _ _ _ _, HB1.out⟩
    · have g1 : ((re : Int) == 32) = false := beq_eq_false_iff_ne.2 (by omega)
      by_cases h2 : re = 33
      · subst h2
        have HZ : Hid (lend xs = (0, [], 0, 42)) := by show _ = _; rw [HLE.out]; rfl
        clear HLE
        go_wp2_with fail
        exact bodyPost_ret (results_four rfl _ _ _) rfl ⟨_, by rw [HZ.out]; rfl, by rw [HZ.out]; exact World.ownsRow_nil _ _ _ _, HB1.out⟩
      · have g2 : ((re : Int) == 33) = false := beq_eq_false_iff_ne.2 (by omega)
        have HZ : Hid (lend xs = (0, [], 0, 43)) := by show _ = _; rw [HLE.out, if_neg h0]; unfold lerr; rw [if_neg (by omega)]
        clear HLE
        go_wp2_with fail
        exact bodyPost_ret (results_four rfl _ _ _) rfl ⟨_, by rw [HZ.out]; rfl, by rw [HZ.out]; exact World.ownsRow_nil _ _ _ _, HB1.out⟩
end
end Go.Proofs.YtmcamdcgnegmmaaGreatDoor
