import Derived.Test.YtmcamdcgnegmmaaGreatDoorJr
import Derived.Test.YtmcamdcgnegmmaaGreatDoorJe
import Derived.Test.YtmcamdcgnegmmaaGreatDoorJf
import Derived.Test.YtmcamdcgnegmmaaGreatDoorJc
import Derived.Laws.Bits64
import Derived.Test.YtmcamdcgnegmmaaGreatDoorJb
import Derived.Test.YtmcamdcgnegmmaaGreatDoorJa
set_option maxRecDepth 1000000
set_option maxHeartbeats 16000000
namespace Go.Proofs.YtmcamdcgnegmmaaGreatDoor
section
open Go.RowKit Go
theorem partOf_any (w : World) (S : Nat → Prop) (hS : ∀ q, S q → q < w.heap.size) (t : Tv) (cs : Array Value) (ht : Tis w S t cs) :
    Calls Tryz.prog 56 #[.agg cs] w (PartP w S (prt t)) := by
  have hb0 := below_alloc4 w (.cells cs 41)
  have HB0 := hide hb0
  have HG0 := hide (heap_alloc_new w (.cells cs 41))
  have HSq := hide hS
  have ht0 := ht.kp (Kp.of_below hb0)
  clear ht hb0 hS
  generalize hw0 : w.alloc (.cells cs 41) = w0 at *
  have HW0 := hide hw0
  clear hw0
  cases ht0 with
  | mk _ vy vk vi hb hy hys hk hks cx a cap hv hc hm hi ha =>
  subst hv
  have HBD := hide hb
  have HY := hide hy
  have HYS := hide hys
  have HK := hide hk
  have HKS := hide hks
  have HV : Hid (Vis w0 S (.slice a t.is.length cap) t.is) := ⟨⟨a, cap, cx, rfl, hc, hi, ha⟩, hm⟩
  obtain ⟨⟨ay, cy, hvy, _, _⟩, _, _⟩ := hy
  obtain ⟨⟨ak, ck, hvk, _, _⟩, _, _⟩ := hk
  subst hvy
  subst hvk
  clear hb hys hks hc hm hi ha
  have q0 : w0.cell? ⟨w.heap.size, 0, none⟩ = some (.int .i64 t.k) := blk_cell (j := 0) HG0.out rfl
  have HPT : Hid (prt t = if t.k = 2 then .truth t.f else if t.k = 3 then .whole t.g t.n else if t.k = 4 then .float t.b else if t.k = 5 then .text t.s else if t.k = 6 then .octets t.y else if t.k = 7 then .name (0 :: lrow t.l) else if t.k = 8 then .list t.is else if t.k = 9 then .entries t.ks t.is else .null) := rfl
  generalize prt t = P at *
  have HLC : Hid (∀ j u, (#[.int .i64 t.l.v, .int .u64 (t.l.c : Nat), .int .u64 (t.l.h : Nat), .string (nstr t.l.d)] : Array Value)[j]? = some u → w0.cell? ⟨w.heap.size, 7 + j, none⟩ = some u) := fun j u hu => blk_cell (j := 7 + j) HG0.out (by
    have hj := (Array.getElem?_eq_some_iff.1 hu).1
    have hj2 : j < 4 := hj
    have : j = 0 ∨ j = 1 ∨ j = 2 ∨ j = 3 := by omega
    rcases this with rfl | rfl | rfl | rfl <;> exact hu)
  by_cases h2 : t.k = 2
  · as_aux_lemma =>
    have g2 : (t.k == 2) = true := beq_iff_eq.2 h2
    have HPP : Hid (P = .truth t.f) := by show _ = _; rw [HPT.out, if_pos h2]
    have q1 : w0.cell? ⟨w.heap.size, 1, none⟩ = some (.bool t.f) := blk_cell (j := 1) HG0.out rfl
    clear h2 HPT
    go_enter Tryz.func56, Tryz.ntmps56
    go_upto_region 1 with fail
    rw [HW0.out]
    go_wp2_with fail
    go_ret
    exact ⟨_, rfl, HB0.out, by rw [HPP.out]; exact rfl⟩
  by_cases h3 : t.k = 3
  · as_aux_lemma =>
    have g2 : (t.k == 2) = false := beq_eq_false_iff_ne.2 h2
    have g3 : (t.k == 3) = true := beq_iff_eq.2 h3
    have HPP : Hid (P = .whole t.g t.n) := by show _ = _; rw [HPT.out, if_neg h2, if_pos h3]
    have q2 : w0.cell? ⟨w.heap.size, 2, none⟩ = some (.bool t.g) := blk_cell (j := 2) HG0.out rfl
    have q3 : w0.cell? ⟨w.heap.size, 3, none⟩ = some (.int .u64 (t.n : Nat)) := blk_cell (j := 3) HG0.out rfl
    clear h2 h3 HPT
    go_enter Tryz.func56, Tryz.ntmps56
    go_upto_region 1 with fail
    rw [HW0.out]
    go_wp2_with fail
    go_ret
    exact ⟨_, rfl, HB0.out, by rw [HPP.out]; exact ⟨rfl, HBD.out.n⟩⟩
  by_cases h4 : t.k = 4
  · as_aux_lemma =>
    have g2 : (t.k == 2) = false := beq_eq_false_iff_ne.2 h2
    have g3 : (t.k == 3) = false := beq_eq_false_iff_ne.2 h3
    have g4 : (t.k == 4) = true := beq_iff_eq.2 h4
    have HPP : Hid (P = .float t.b) := by show _ = _; rw [HPT.out, if_neg h2, if_neg h3, if_pos h4]
    have q4 : w0.cell? ⟨w.heap.size, 4, none⟩ = some (.int .u64 (t.b : Nat)) := blk_cell (j := 4) HG0.out rfl
    clear h2 h3 h4 HPT
    go_enter Tryz.func56, Tryz.ntmps56
    go_upto_region 1 with fail
    rw [HW0.out]
    go_wp2_with fail
    go_ret
    exact ⟨_, rfl, HB0.out, by rw [HPP.out]; exact ⟨rfl, HBD.out.b⟩⟩
  by_cases h5 : t.k = 5
  · as_aux_lemma =>
    have g2 : (t.k == 2) = false := beq_eq_false_iff_ne.2 h2
    have g3 : (t.k == 3) = false := beq_eq_false_iff_ne.2 h3
    have g4 : (t.k == 4) = false := beq_eq_false_iff_ne.2 h4
    have g5 : (t.k == 5) = true := beq_iff_eq.2 h5
    have HPP : Hid (P = .text t.s) := by show _ = _; rw [HPT.out, if_neg h2, if_neg h3, if_neg h4, if_pos h5]
    have q5 : w0.cell? ⟨w.heap.size, 5, none⟩ = some (.string t.s) := blk_cell (j := 5) HG0.out rfl
    clear h2 h3 h4 h5 HPT
    go_enter Tryz.func56, Tryz.ntmps56
    go_upto_region 1 with fail
    rw [HW0.out]
    go_wp2_with fail
    go_ret
    exact ⟨_, rfl, HB0.out, by rw [HPP.out]; exact ⟨rfl, HBD.out.s⟩⟩
  by_cases h6 : t.k = 6
  · as_aux_lemma =>
    have g2 : (t.k == 2) = false := beq_eq_false_iff_ne.2 h2
    have g3 : (t.k == 3) = false := beq_eq_false_iff_ne.2 h3
    have g4 : (t.k == 4) = false := beq_eq_false_iff_ne.2 h4
    have g5 : (t.k == 5) = false := beq_eq_false_iff_ne.2 h5
    have g6 : (t.k == 6) = true := beq_iff_eq.2 h6
    have HPP : Hid (P = .octets t.y) := by show _ = _; rw [HPT.out, if_neg h2, if_neg h3, if_neg h4, if_neg h5, if_pos h6]
    have q6 : w0.cell? ⟨w.heap.size, 6, none⟩ = some (.slice ay t.y.length cy) := blk_cell (j := 6) HG0.out rfl
    clear h2 h3 h4 h5 h6 HPT
    go_enter Tryz.func56, Tryz.ntmps56
    go_upto_region 1 with fail
    rw [HW0.out]
    go_wp2_with fail
    go_ret
    exact ⟨_, rfl, HB0.out, by rw [HPP.out]; exact ⟨_, rfl, HY.out, HYS.out, HBD.out.y⟩⟩
  by_cases h7 : t.k = 7
  · as_aux_lemma =>
    have g2 : (t.k == 2) = false := beq_eq_false_iff_ne.2 h2
    have g3 : (t.k == 3) = false := beq_eq_false_iff_ne.2 h3
    have g4 : (t.k == 4) = false := beq_eq_false_iff_ne.2 h4
    have g5 : (t.k == 5) = false := beq_eq_false_iff_ne.2 h5
    have g6 : (t.k == 6) = false := beq_eq_false_iff_ne.2 h6
    have g7 : (t.k == 7) = true := beq_iff_eq.2 h7
    have HPP : Hid (P = .name (0 :: lrow t.l)) := by show _ = _; rw [HPT.out, if_neg h2, if_neg h3, if_neg h4, if_neg h5, if_neg h6, if_pos h7]
    clear h2 h3 h4 h5 h6 h7 HPT
    go_enter Tryz.func56, Tryz.ntmps56
    go_upto_region 1 with fail
    rw [HW0.out]
    go_wp2_with (refine wpList_exec rfl (exec_lkAt7 (g := w.heap.size) (off := 7) (cs := #[.int .i64 t.l.v, .int .u64 (t.l.c : Nat), .int .u64 (t.l.h : Nat), .string (nstr t.l.d)]) rfl rfl rfl HLC.out) ?_)
    refine (nameOf_any w0 S (fun q hq => Nat.lt_of_lt_of_le (HSq.out q hq) HB0.out.size) t.l HBD.out.l).mono ?_
    rintro e w1 ⟨v1, rfl, hb1, hp1⟩
    have HB1 : Hid (Below w.heap.size w w1) := HB0.out.trans (hb1.mono HB0.out.size)
    have HP1 := hide hp1
    clear hb1 hp1 q0
    go_wp2_with fail
    go_ret
    exact ⟨_, rfl, HB1.out, by rw [HPP.out]; exact HP1.out⟩
  by_cases h8 : t.k = 8
  · as_aux_lemma =>
    have g2 : (t.k == 2) = false := beq_eq_false_iff_ne.2 h2
    have g3 : (t.k == 3) = false := beq_eq_false_iff_ne.2 h3
    have g4 : (t.k == 4) = false := beq_eq_false_iff_ne.2 h4
    have g5 : (t.k == 5) = false := beq_eq_false_iff_ne.2 h5
    have g6 : (t.k == 6) = false := beq_eq_false_iff_ne.2 h6
    have g7 : (t.k == 7) = false := beq_eq_false_iff_ne.2 h7
    have g8 : (t.k == 8) = true := beq_iff_eq.2 h8
    have HPP : Hid (P = .list t.is) := by show _ = _; rw [HPT.out, if_neg h2, if_neg h3, if_neg h4, if_neg h5, if_neg h6, if_neg h7, if_pos h8]
    have q12 : w0.cell? ⟨w.heap.size, 12, none⟩ = some (.slice a t.is.length cap) := blk_cell (j := 12) HG0.out rfl
    clear h2 h3 h4 h5 h6 h7 h8 HPT
    go_enter Tryz.func56, Tryz.ntmps56
    go_upto_region 1 with fail
    rw [HW0.out]
    go_wp2_with fail
    go_ret
    exact ⟨_, rfl, HB0.out, by rw [HPP.out]; exact ⟨_, rfl, HV.out⟩⟩
  by_cases h9 : t.k = 9
  · as_aux_lemma =>
    have g2 : (t.k == 2) = false := beq_eq_false_iff_ne.2 h2
    have g3 : (t.k == 3) = false := beq_eq_false_iff_ne.2 h3
    have g4 : (t.k == 4) = false := beq_eq_false_iff_ne.2 h4
    have g5 : (t.k == 5) = false := beq_eq_false_iff_ne.2 h5
    have g6 : (t.k == 6) = false := beq_eq_false_iff_ne.2 h6
    have g7 : (t.k == 7) = false := beq_eq_false_iff_ne.2 h7
    have g8 : (t.k == 8) = false := beq_eq_false_iff_ne.2 h8
    have g9 : (t.k == 9) = true := beq_iff_eq.2 h9
    have HPP : Hid (P = .entries t.ks t.is) := by show _ = _; rw [HPT.out, if_neg h2, if_neg h3, if_neg h4, if_neg h5, if_neg h6, if_neg h7, if_neg h8, if_pos h9]
    have q11 : w0.cell? ⟨w.heap.size, 11, none⟩ = some (.slice ak t.ks.length ck) := blk_cell (j := 11) HG0.out rfl
    have q12 : w0.cell? ⟨w.heap.size, 12, none⟩ = some (.slice a t.is.length cap) := blk_cell (j := 12) HG0.out rfl
    clear h2 h3 h4 h5 h6 h7 h8 h9 HPT
    go_enter Tryz.func56, Tryz.ntmps56
    go_upto_region 1 with fail
    rw [HW0.out]
    go_wp2_with fail
    go_ret
    exact ⟨_, rfl, HB0.out, by rw [HPP.out]; exact ⟨_, _, rfl, HK.out, HKS.out, HV.out⟩⟩
  as_aux_lemma =>
    have g2 : (t.k == 2) = false := beq_eq_false_iff_ne.2 h2
    have g3 : (t.k == 3) = false := beq_eq_false_iff_ne.2 h3
    have g4 : (t.k == 4) = false := beq_eq_false_iff_ne.2 h4
    have g5 : (t.k == 5) = false := beq_eq_false_iff_ne.2 h5
    have g6 : (t.k == 6) = false := beq_eq_false_iff_ne.2 h6
    have g7 : (t.k == 7) = false := beq_eq_false_iff_ne.2 h7
    have g8 : (t.k == 8) = false := beq_eq_false_iff_ne.2 h8
    have g9 : (t.k == 9) = false := beq_eq_false_iff_ne.2 h9
    have HPP : Hid (P = .null) := by show _ = _; rw [HPT.out, if_neg h2, if_neg h3, if_neg h4, if_neg h5, if_neg h6, if_neg h7, if_neg h8, if_neg h9]
    clear h2 h3 h4 h5 h6 h7 h8 h9 HPT
    go_enter Tryz.func56, Tryz.ntmps56
    go_upto_region 1 with fail
    rw [HW0.out]
    go_wp2_with fail
    go_ret
    exact ⟨_, rfl, HB0.out, by rw [HPP.out]; exact rfl⟩
end
section
open Go.RowKit Go
def BelP (w : World) (S : Nat → Prop) (ps : List Prt) (e : Ending) (w' : World) : Prop :=
  ∃ (vp : Value) (vs : List Value), e = .returned vp ∧ Below w.heap.size w w' ∧ w'.ownsRow w.heap.size 110 1 vp ps.length vs ∧ ∀ (i : Nat) (p : Prt) (v : Value), ps[i]? = some p → vs[i]? = some v → Pis w' S p v
theorem BelP.none (w : World) (S : Nat → Prop) : BelP w S [] (.returned (.slice none 0 0)) w := ⟨_, [], rfl, Below.refl _ _, World.ownsRow_nil _ _ _ _, fun i p v hp => by simp at hp⟩
theorem below_none (w : World) (S : Nat → Prop) (p : Prt) (v : Value) (hp : Pis w S p v) (h1 : ∀ is, p ≠ .list is) (h2 : ∀ ks is, p ≠ .entries ks is) :
    Calls Tryz.prog 83 #[v] w (BelP w S (pbl p)) := by
  cases p with
  | null =>
    have e : v = _ := hp
    subst e
    clear hp h1 h2
    have t1 : ∀ w, (Instr.typeAssert (.iface 149 (.agg #[])) 110 146 true).run Tryz.prog w = .ok (.tuple #[.slice none 0 0, .bool false]) w := fun _ => by kernel_rfl
    have t2 : ∀ w, (Instr.typeAssert (.iface 149 (.agg #[])) 110 148 true).run Tryz.prog w = .ok (.tuple #[.agg #[.slice none 0 0, .slice none 0 0], .bool false]) w := fun _ => by kernel_rfl
    go_enter Tryz.func83, Tryz.ntmps83
    go_wp2_with fail
    go_ret
    exact BelP.none w S
  | truth b =>
    have e : v = _ := hp
    subst e
    clear hp h1 h2
    have t1 : ∀ w, (Instr.typeAssert (.iface 139 (.bool b)) 110 146 true).run Tryz.prog w = .ok (.tuple #[.slice none 0 0, .bool false]) w := fun _ => by kernel_rfl
    have t2 : ∀ w, (Instr.typeAssert (.iface 139 (.bool b)) 110 148 true).run Tryz.prog w = .ok (.tuple #[.agg #[.slice none 0 0, .slice none 0 0], .bool false]) w := fun _ => by kernel_rfl
    go_enter Tryz.func83, Tryz.ntmps83
    go_wp2_with fail
    go_ret
    exact BelP.none w S
  | whole g n =>
    obtain ⟨e, -⟩ := hp
    subst e
    clear h1 h2
    have t1 : ∀ w, (Instr.typeAssert (.iface 141 (.agg #[.bool g, .int .u64 (n : Nat)])) 110 146 true).run Tryz.prog w = .ok (.tuple #[.slice none 0 0, .bool false]) w := fun _ => by kernel_rfl
    have t2 : ∀ w, (Instr.typeAssert (.iface 141 (.agg #[.bool g, .int .u64 (n : Nat)])) 110 148 true).run Tryz.prog w = .ok (.tuple #[.agg #[.slice none 0 0, .slice none 0 0], .bool false]) w := fun _ => by kernel_rfl
    go_enter Tryz.func83, Tryz.ntmps83
    go_wp2_with fail
    go_ret
    exact BelP.none w S
  | float b =>
    obtain ⟨e, -⟩ := hp
    subst e
    clear h1 h2
    have t1 : ∀ w, (Instr.typeAssert (.iface 142 (.int .u64 (b : Nat))) 110 146 true).run Tryz.prog w = .ok (.tuple #[.slice none 0 0, .bool false]) w := fun _ => by kernel_rfl
    have t2 : ∀ w, (Instr.typeAssert (.iface 142 (.int .u64 (b : Nat))) 110 148 true).run Tryz.prog w = .ok (.tuple #[.agg #[.slice none 0 0, .slice none 0 0], .bool false]) w := fun _ => by kernel_rfl
    go_enter Tryz.func83, Tryz.ntmps83
    go_wp2_with fail
    go_ret
    exact BelP.none w S
  | text s =>
    obtain ⟨e, -⟩ := hp
    subst e
    clear h1 h2
    have t1 : ∀ w, (Instr.typeAssert (.iface 143 (.string s)) 110 146 true).run Tryz.prog w = .ok (.tuple #[.slice none 0 0, .bool false]) w := fun _ => by kernel_rfl
    have t2 : ∀ w, (Instr.typeAssert (.iface 143 (.string s)) 110 148 true).run Tryz.prog w = .ok (.tuple #[.agg #[.slice none 0 0, .slice none 0 0], .bool false]) w := fun _ => by kernel_rfl
    go_enter Tryz.func83, Tryz.ntmps83
    go_wp2_with fail
    go_ret
    exact BelP.none w S
  | octets y =>
    obtain ⟨vb, e, hb, -, -⟩ := hp
    obtain ⟨⟨a, c, hv, _⟩, _⟩ := hb
    subst hv
    subst e
    clear h1 h2
    have t1 : ∀ w, (Instr.typeAssert (.iface 144 (.slice a y.length c)) 110 146 true).run Tryz.prog w = .ok (.tuple #[.slice none 0 0, .bool false]) w := fun _ => by kernel_rfl
    have t2 : ∀ w, (Instr.typeAssert (.iface 144 (.slice a y.length c)) 110 148 true).run Tryz.prog w = .ok (.tuple #[.agg #[.slice none 0 0, .slice none 0 0], .bool false]) w := fun _ => by kernel_rfl
    go_enter Tryz.func83, Tryz.ntmps83
    go_wp2_with fail
    go_ret
    exact BelP.none w S
  | name y =>
    obtain ⟨vb, e, hb, -⟩ := hp
    obtain ⟨⟨a, c, hv, _⟩, _⟩ := hb
    subst hv
    subst e
    clear h1 h2
    have t1 : ∀ w, (Instr.typeAssert (.iface 188 (.agg #[.slice a y.length c])) 110 146 true).run Tryz.prog w = .ok (.tuple #[.slice none 0 0, .bool false]) w := fun _ => by kernel_rfl
    have t2 : ∀ w, (Instr.typeAssert (.iface 188 (.agg #[.slice a y.length c])) 110 148 true).run Tryz.prog w = .ok (.tuple #[.agg #[.slice none 0 0, .slice none 0 0], .bool false]) w := fun _ => by kernel_rfl
    go_enter Tryz.func83, Tryz.ntmps83
    go_wp2_with fail
    go_ret
    exact BelP.none w S
  | list is => exact absurd rfl (h1 is)
  | entries ks is => exact absurd rfl (h2 ks is)
theorem infoP7_ex : ∃ i, Tryz.prog.info? 110 = some i ∧ i.zero = some .nilIface ∧ i.size = 1 ∧ i.bytes = 16 := by
  have h : (Tryz.prog.info? 110).map (fun i => (i.size, i.bytes)) = some (1, 16) := by kernel_rfl
  have h2 : (Tryz.prog.info? 110).bind (fun i => i.zero) = some .nilIface := by kernel_rfl
  cases hi : Tryz.prog.info? 110 with
  | none => rw [hi] at h; cases h
  | some i =>
    rw [hi] at h h2
    simp at h h2
    exact ⟨i, rfl, h2, h.1, h.2⟩
theorem append_parts {ops : Array Oper} {rest : List Oper} {o : Oper} {a : Act} {Q : Exit → Act → World → Prop} {w : World} (hgd : o.guard = none) (s x : Operand)
    (ho : o.op = .call { callee := .builtin .append, args := #[s, x], argTypes := #[154, 154] }) (B : Nat) (v : Value) (n : Nat) (ds : List Value) (hs : a.eval s = v) (hown : w.ownsRow B 110 1 v n ds)
    (g m : Nat) (xs : List Value) (hx : a.eval x = .slice (some ⟨g, 0, none⟩) m m) (hm : xs.length = m) (hg : w.heap[g]? = some (.cells xs.toArray 110 (0, 0))) (h1 : ∀ u ∈ xs, u.oneCell' = true) (hlen : n + m ≤ 1099511627776) (hbase : B ≤ w.heap.size)
    (h : ∀ v' w', w'.ownsRow B 110 1 v' (n + m) (ds ++ xs) → w.grownBy w' v.ownBlock → At7 w v v' → wpList Tryz.prog ops Q rest (a.put o.dst v') w') : wpList Tryz.prog ops Q (o :: rest) a w := by
  obtain ⟨i, hi, hz0, hz1, hz2⟩ := infoP7_ex
  refine wpList_append_own_at w hgd s x 154 ho B 110 i _ 1 16 Tryz.underlying154 hi hz0 hz1 hz2 rfl (by decide) v n ds hs hown ⟨g, 0, none⟩ m m xs hx (by omega) (fun j u hu => ?_) h1 (by unfold maxLen; omega) (by omega) hbase fun v' w' h1 h2 _ h4 => h v' w' h1 h2 ?_
  · have hadd : (⟨g, 0, none⟩ : Addr).add j = ⟨g, j, none⟩ := by unfold Addr.add; split <;> simp_all
    rw [hadd]
    exact blk_cell hg (by simpa using hu)
  · rcases h4 with e | e
    · exact .inl e
    · exact .inr (fun q hq => by rw [e] at hq; injection hq with hq; omega)
end
section
open Go.RowKit Go

end
section
open Go.RowKit Go

end
section
open Go.RowKit Go

end
section
open Go.RowKit Go

end
section
open Go.RowKit Go

end
section
open Go.RowKit Go

end
section
open Go.RowKit Go
structure Bl7 (w wx : World) (S : Nat → Prop) (ps : List Prt) (k : Nat) (vp : Value) (vs : List Value) : Prop where
  b : Below w.heap.size w wx
  o : wx.ownsRow w.heap.size 110 1 vp k vs
  p : ∀ (i : Nat) (p : Prt) (v : Value), i < k → ps[i]? = some p → vs[i]? = some v → Pis wx (fun q => S q ∨ vp.ownBlock = some q) p v
theorem Bl7.len {w wx : World} {S : Nat → Prop} {ps : List Prt} {k : Nat} {vp : Value} {vs : List Value} (h : Bl7 w wx S ps k vp vs) : vs.length = k := by
  have := h.o.1
  omega
theorem Bl7.next {w wx wy : World} {S : Nat → Prop} {ps : List Prt} {k : Nat} {vp : Value} {vs : List Value} (h : Bl7 w wx S ps k vp vs) (hb : Below wx.heap.size wx wy) : Bl7 w wy S ps k vp vs :=
  ⟨h.b.trans (hb.mono h.b.size), (Kp.of_below (S := fun _ => False) hb).owns h.o (fun _ _ h => h), fun i p v hi hp hv => (h.p i p v hi hp hv).live (Kp.of_below hb) (fun _ hq => .inl hq)⟩
theorem Bl7.add {w wx wy : World} {S : Nat → Prop} {ps : List Prt} {k m : Nat} {vp vp' : Value} {vs us : List Value} (h : Bl7 w wx S ps k vp vs) (ho : wy.ownsRow w.heap.size 110 1 vp' (k + m) (vs ++ us)) (hg : wx.grownBy wy vp.ownBlock) (ha : At7 wx vp vp')
    (hu : ∀ (i : Nat) (p : Prt) (v : Value), ps[k + i]? = some p → us[i]? = some v → Pis wx (fun q => S q ∨ vp.ownBlock = some q) p v) : Bl7 w wy S ps (k + m) vp' (vs ++ us) := by
  have hk : Kp (fun q => S q ∨ vp.ownBlock = some q) wx wy := (kp_grown hg).mono (fun q _ e => .inr e)
  have ht : ∀ q, (S q ∨ vp'.ownBlock = some q) → (S q ∨ vp.ownBlock = some q) ∨ wx.heap.size ≤ q := fun q hq => by
    rcases hq with e | e
    · exact .inl (.inl e)
    · rcases ha with e2 | e2
      · exact .inl (.inr (e2 ▸ e))
      · exact .inr (e2 q e)
  refine ⟨h.b.grown hg h.b.size (fun q hq => (h.o.lt q hq).1), ho, fun i p v hi hp hv => ?_⟩
  have hl := h.len
  by_cases hik : i < k
  · rw [List.getElem?_append_left (by omega)] at hv
    exact (h.p i p v hik hp hv).live hk ht
  · rw [List.getElem?_append_right (by omega), hl] at hv
    exact (hu (i - k) p v (by rw [show k + (i - k) = i by omega]; exact hp) hv).live hk ht
theorem Bl7.out {w wx : World} {S : Nat → Prop} {ps : List Prt} {k : Nat} {vp : Value} {vs : List Value} (h : Bl7 w wx S ps k vp vs) (hk : k = ps.length) : BelP w S ps (.returned vp) wx := by
  subst hk
  exact ⟨vp, vs, rfl, h.b, h.o, fun i p v hp hv => (h.p i p v (List.getElem?_eq_some_iff.1 hp).1 hp hv).live (Kp.refl _ _) (fun q hq => .inl (.inl hq))⟩
theorem itm_mk7 (w : World) (c : Array Value) : Below w.heap.size w ((w.alloc (.cells zv 41)).setRow w.heap.size c) ∧ ((w.alloc (.cells zv 41)).setRow w.heap.size c).heap[w.heap.size]? = some (.cells c 41 (0, 0)) :=
  ⟨(below_alloc4 w _).trans ((row_kp _ _ _).below (below_alloc4 w _).size (fun q e => by omega)), row_same (heap_alloc_new w _)⟩
theorem pis_one {w : World} {S : Nat → Prop} {p : Prt} {v : Value} (h : Pis w S p v) : ∃ T x, v = .iface T x := by
  cases p with
  | null => exact ⟨_, _, h⟩
  | truth b => exact ⟨_, _, h⟩
  | whole g n => exact ⟨_, _, h.1⟩
  | float b => exact ⟨_, _, h.1⟩
  | text s => exact ⟨_, _, h.1⟩
  | octets y => obtain ⟨_, e, _⟩ := h; exact ⟨_, _, e⟩
  | name y => obtain ⟨_, e, _⟩ := h; exact ⟨_, _, e⟩
  | list is => obtain ⟨_, e, _⟩ := h; exact ⟨_, _, e⟩
  | entries ks is => obtain ⟨_, _, e, _⟩ := h; exact ⟨_, _, e⟩
theorem below_list (w : World) (S : Nat → Prop) (hS : ∀ q, S q → q < w.heap.size) (is : List Tv) (v : Value) (hp : Pis w S (.list is) v) (hil : is.length ≤ 1000000000) :
    Calls Tryz.prog 83 #[v] w (BelP w S (is.map prt)) := by
  obtain ⟨vi, e, hv⟩ := hp
  subst e
  have HV := hide hv
  have HSq := hide hS
  obtain ⟨⟨a, cap, cx, rfl, hcc, -, -⟩, hmx⟩ := hv
  have t1 : ∀ w, (Instr.typeAssert (.iface 146 (.slice a is.length cap)) 110 146 true).run Tryz.prog w = .ok (.tuple #[.slice a is.length cap, .bool true]) w := fun _ => by kernel_rfl
  have HB0 : Hid (Bl7 w w S (is.map prt) 0 (.slice none 0 0) []) := ⟨Below.refl _ _, World.ownsRow_nil _ _ _ _, fun i p v hi => by omega⟩
  clear hS hcc hmx
  go_enter Tryz.func83, Tryz.ntmps83
  go_wp2_with fail
  go_loopw [3, 16] (fun vp kk wx => ∃ (k : Nat) (vs : List Value), k ≤ is.length ∧ kk = .int .i64 (k : Nat) ∧ Hid (Bl7 w wx S (is.map prt) k vp vs)) (fun _ kk _ => is.length - (intOf kk).toNat)
  case atStart => exact ⟨0, [], by omega, rfl, HB0⟩
  case round =>
    rename World => wx
    obtain ⟨k, vs, hk, rfl, HX⟩ := hrel
    clear HB0 t1
    by_cases hlt : k < is.length
    · as_aux_lemma =>
      have g1 : (k : Int) < (is.length : Int) := by omega
      obtain ⟨⟨a', cap', cs, hva, -, hts, hform⟩, -⟩ := HV.out
      injection hva with e1 e2 e3
      subst e1
      obtain ⟨b, off, ha, hnb, hcell⟩ := hform.resolve_left (fun e => by rw [e] at hlt; simp at hlt)
      subst ha
      have hti := hts k _ (List.getElem?_eq_getElem hlt)
      have HSZ := hide hti.tin.size13
      have HA1 := hide hti.tin.all1
      have HCC : Hid (∀ j u, (cs k)[j]? = some u → wx.cell? ⟨b, off + k * 13 + j, none⟩ = some u) := fun j u hu => keep_below HX.out.b _ _ (hcell k hlt j u hu)
      have hmk := itm_mk7 wx (cs k)
      have HXN := hide (HX.out.next hmk.1)
      have HNB := hide (heap_alloc_new wx (.cells zv 41))
      have HVB := hide hmk.2
      have HI5 : Hid ((Tryz.prog.info? 41).map (·.size) = some (cs k).size) := by show _ = _; rw [HSZ.out]; exact infoV
      have HZ5 : Hid (zv.size = (cs k).size) := by show _ = _; rw [HSZ.out]; rfl
      have HTI : Hid (Tis w S (is[k]) (cs k)) := hti
      have HPK : Hid ((is.map prt)[k]? = some (prt is[k])) := by show _ = _; rw [List.getElem?_map, List.getElem?_eq_getElem hlt]; rfl
      generalize is[k] = tk at *
      generalize cs k = ck at *
      have HLT := hide hlt
      obtain ⟨av, cv, hvv⟩ := own_slice7 HX.out.o
      subst hvv
      clear hform hcell hts hmk hti hnb e2 e3 hlt
      go_upto_region 8 with (first
        | (refine wpList_exec rfl (exec_valAt (g := b) (off := off + k * 13) (cs := ck) rfl rfl HSZ.out HCC.out) ?_)
        | (refine wpList_storeRow rfl rfl wx.heap.size zv ck 41 rfl rfl HNB.out HI5.out HZ5.out HA1.out ?_))
      (try simp only [Act.put]); (try simp only [LsA, Ls0, LsS])
      unfold zv at HXN HVB
      generalize (wx.alloc (.cells #[.int .i64 0, .bool false, .bool false, .int .u64 0, .int .u64 0, .string ⟨#[]⟩, .slice none 0 0, .int .i64 0, .int .u64 0, .int .u64 0, .string ⟨#[]⟩, .slice none 0 0, .slice none 0 0] 41)).setRow wx.heap.size ck = wy at *
      have HVC : Hid (∀ j u, ck[j]? = some u → wy.cell? ⟨wx.heap.size, 0 + j, none⟩ = some u) := fun j u hu => by rw [Nat.zero_add]; exact blk_cell HVB.out hu
      have hwy := HXN.out.b
      have HTY : Hid (Tis wy (fun q => S q ∨ (Value.slice av k cv).ownBlock = some q) tk ck) := tis_live7 HTI.out (Kp.of_below hwy) (fun q hq => by
        rcases hq with e | e
        · exact .inl e
        · exact .inr (HXN.out.o.lt q e).1)
      have HPC := hide (partOf_any wy (fun q => S q ∨ (Value.slice av k cv).ownBlock = some q) (fun q hq => by
        rcases hq with e | e
        · exact Nat.lt_of_lt_of_le (HSq.out q e) hwy.size
        · exact (HXN.out.o.lt q e).2) tk ck HTY.out)
      clear hwy HX HCC HNB
      go_wp2_with (refine wpList_exec rfl (exec_valAt (g := wx.heap.size) (off := 0) (cs := ck) rfl rfl HSZ.out HVC.out) ?_)
      refine HPC.out.mono ?_
      rintro e w1 ⟨v1, rfl, hb1, hp1⟩
      obtain ⟨T1, x1, e1⟩ := pis_one hp1
      subst e1
      have hb2 := below_alloc4 w1 (.cells #[.iface T1 x1] 110)
      have HX2 := hide ((HXN.out.next hb1).next hb2)
      have HP2 := hide (hp1.live (Kp.of_below hb2) (fun _ hq => .inl hq))
      have HG2 := hide (heap_alloc_new w1 (.cells #[.iface T1 x1] 110))
      have HBz : Hid (w.heap.size ≤ (w1.alloc (.cells #[.iface T1 x1] 110)).heap.size) := HX2.out.b.size
      clear hb1 hp1 hb2 HPC HXN HVC HVB HTY
      go_wp2_with (at_builtin; refine append_parts rfl _ _ rfl w.heap.size _ k vs rfl HX2.out.o w1.heap.size 1 [.iface T1 x1] rfl rfl HG2.out (fun u hu => by rw [List.mem_singleton.1 hu]; rfl) (by omega) HBz.out ?_)
      intro v3 w3 h1 h2 h3
      have HX3 : Hid (Bl7 w w3 S (is.map prt) (k + 1) v3 (vs ++ [.iface T1 x1])) := HX2.out.add (us := [.iface T1 x1]) h1 h2 h3 (fun i p v hp hv => by
        cases i with
        | zero =>
          rw [Nat.add_zero, HPK.out] at hp
          injection hp with hp
          subst hp
          have e5 : v = .iface T1 x1 := by simpa using hv.symm
          rw [e5]
          exact HP2.out
        | succ i => simp at hv)
      obtain ⟨a3, c3, hv3⟩ := own_slice7 HX3.out.o
      subst hv3
      clear h1 h2 h3 HX2 HP2 HG2 HBz
      go_wp2_with fail
      go_roundw
      case rel => exact ⟨k + 1, _, by have := HLT.out; omega, by go_num, HX3⟩
      case measure => have := HLT.out; simp [intOf]; omega
    · as_aux_lemma =>
      have g1 : ¬ (k : Int) < (is.length : Int) := by omega
      have HF : Hid (BelP w S (is.map prt) (.returned u3) wx) := HX.out.out (by rw [List.length_map]; omega)
      clear hlt
      go_wp2_with fail
      go_ret
      exact HF.out
end
section
open Go.RowKit Go
theorem row_mk7 (w : World) (z c : Array Value) (t : TypeId) : Below w.heap.size w ((w.alloc (.cells z t)).setRow w.heap.size c) ∧ ((w.alloc (.cells z t)).setRow w.heap.size c).heap[w.heap.size]? = some (.cells c t (0, 0)) :=
  ⟨(below_alloc4 w _).trans ((row_kp _ _ _).below (below_alloc4 w _).size (fun q e => by omega)), row_same (heap_alloc_new w _)⟩
theorem pairs_get {γ δ : Type} (A B : γ → δ) : ∀ (l : List γ) (i : Nat), (l.flatMap fun x => [A x, B x])[2 * i]? = (l[i]?).map A ∧ (l.flatMap fun x => [A x, B x])[2 * i + 1]? = (l[i]?).map B
  | [], i => by simp
  | x :: r, 0 => by simp
  | x :: r, i + 1 => by
    have h := pairs_get A B r i
    rw [List.flatMap_cons]
    constructor
    · rw [List.getElem?_append_right (by show 2 ≤ _; omega)]
      show (r.flatMap _)[2 * (i + 1) - 2]? = _
      rw [show 2 * (i + 1) - 2 = 2 * i by omega, h.1]
      simp
    · rw [List.getElem?_append_right (by show 2 ≤ _; omega)]
      show (r.flatMap _)[2 * (i + 1) + 1 - 2]? = _
      rw [show 2 * (i + 1) + 1 - 2 = 2 * i + 1 by omega, h.2]
      simp
theorem pairs_len {γ δ : Type} (A B : γ → δ) : ∀ (l : List γ), (l.flatMap fun x => [A x, B x]).length = 2 * l.length
  | [] => rfl
  | x :: r => by
    have h := pairs_len A B r
    rw [List.flatMap_cons, List.length_append, h]
    show 2 + 2 * r.length = 2 * (r.length + 1)
    omega
theorem below_entries (w : World) (S : Nat → Prop) (hS : ∀ q, S q → q < w.heap.size) (ks : List ByteArray) (is : List Tv) (v : Value) (hp : Pis w S (.entries ks is) v) (hil : is.length ≤ 1000000000) (hkl : ks.length = is.length) :
    Calls Tryz.prog 83 #[v] w (BelP w S (pbl (.entries ks is))) := by
  obtain ⟨vk, vi, e, hk, hks, hv⟩ := hp
  subst e
  have HV := hide hv
  have HK := hide hk
  have HSq := hide hS
  obtain ⟨⟨a, cap, cx, rfl, hcc, -, -⟩, hmx⟩ := hv
  obtain ⟨⟨ak, ck, rfl, hkc, hkf⟩, hkm, hkz⟩ := hk
  have HKF := hide hkf
  have HKZ := hide hkz
  have t1 : ∀ w, (Instr.typeAssert (.iface 148 (.agg #[.slice ak ks.length ck, .slice a is.length cap])) 110 146 true).run Tryz.prog w = .ok (.tuple #[.slice none 0 0, .bool false]) w := fun _ => by kernel_rfl
  have t2 : ∀ w, (Instr.typeAssert (.iface 148 (.agg #[.slice ak ks.length ck, .slice a is.length cap])) 110 148 true).run Tryz.prog w = .ok (.tuple #[.agg #[.slice ak ks.length ck, .slice a is.length cap], .bool true]) w := fun _ => by kernel_rfl
  have HPS : Hid (pbl (.entries ks is) = (ks.zip is).flatMap fun x => [.text x.1, prt x.2]) := rfl
  generalize pbl (.entries ks is) = ps at *
  have HPL : Hid (ps.length = 2 * is.length) := by show _ = _; rw [HPS.out, pairs_len, List.length_zip]; omega
  have HKL := hide hkl
  have hkk : ks.length ≤ 1000000000 := by omega
  have hb0 := row_mk7 w #[.slice none 0 0, .slice none 0 0] #[.slice ak ks.length ck, .slice a is.length cap] 148
  have HN0 := hide (heap_alloc_new w (.cells #[.slice none 0 0, .slice none 0 0] 148))
  have HBZ := hide hb0.1
  have HG0 := hide hb0.2
  have HIE : Hid ((Tryz.prog.info? 148).map (·.size) = some (#[.slice ak ks.length ck, .slice a is.length cap] : Array Value).size) := by show _ = _; kernel_rfl
  have HAE : Hid ((#[.slice ak ks.length ck, .slice a is.length cap] : Array Value).all (·.oneCell') = true) := by
    show _ = _
    rw [Array.all_eq_true']
    intro u hu
    simp only [List.mem_toArray, List.mem_cons, List.not_mem_nil, or_false] at hu
    rcases hu with rfl | rfl <;> rfl
  clear hS hcc hmx hks hkc hkf hkm hkz hkl hil hb0
  go_enter Tryz.func83, Tryz.ntmps83
  go_upto_region 12 with (refine wpList_storeRow rfl rfl w.heap.size #[.slice none 0 0, .slice none 0 0] #[.slice ak ks.length ck, .slice a is.length cap] 148 rfl rfl HN0.out HIE.out rfl HAE.out ?_)
  (try simp only [Act.put]); (try simp only [LsA, Ls0, LsS])
  generalize (w.alloc (.cells #[.slice none 0 0, .slice none 0 0] 148)).setRow w.heap.size #[.slice ak ks.length ck, .slice a is.length cap] = w0 at *
  have HB0 : Hid (Bl7 w w0 S ps 0 (.slice none 0 0) []) := ⟨HBZ.out, World.ownsRow_nil _ _ _ _, fun i p v hi => by omega⟩
  have q0 : w0.cell? ⟨w.heap.size, 0, none⟩ = some (.slice ak ks.length ck) := blk_cell (j := 0) HG0.out rfl
  clear t1 t2 HN0
  go_wp2_with fail
  clear q0
  go_loopw [3, 32] (fun vp kk wx => ∃ (k : Nat) (vs : List Value), k ≤ ks.length ∧ kk = .int .i64 (k : Nat) ∧ Hid (Bl7 w wx S ps (2 * k) vp vs ∧ wx.heap[w.heap.size]? = some (.cells #[.slice ak ks.length ck, .slice a is.length cap] 148 (0, 0)))) (fun _ kk _ => ks.length - (intOf kk).toNat)
  case atStart => exact ⟨0, [], by omega, rfl, hide ⟨HB0.out, HG0.out⟩⟩
  case round =>
    rename World => wx
    obtain ⟨k, vs, hk, rfl, HX⟩ := hrel
    clear HB0 HG0 HBZ
    by_cases hlt : k < ks.length
    · as_aux_lemma =>
      have g1 : (k : Int) < (ks.length : Int) := by omega
      have hil : k < is.length := by have := HKL.out; omega
      have g2 : (k : Int) < (is.length : Int) := by omega
      obtain ⟨⟨a', cap', cs, hva, -, hts, hform⟩, -⟩ := HV.out
      injection hva with e1 e2 e3
      subst e1
      obtain ⟨b, off, ha, hnb, hcell⟩ := hform.resolve_left (fun e => by rw [e] at hil; simp at hil)
      subst ha
      obtain ⟨bk, offk, hak, hkc⟩ := HKF.out.resolve_left (fun e => by rw [e] at hlt; simp at hlt)
      subst hak
      have hti := hts k _ (List.getElem?_eq_getElem hil)
      have HSZ := hide hti.tin.size13
      have HCC : Hid (∀ j u, (cs k)[j]? = some u → wx.cell? ⟨b, off + k * 13 + j, none⟩ = some u) := fun j u hu => keep_below HX.out.1.b _ _ (hcell k hil j u hu)
      have ck0 : wx.cell? ⟨bk, offk + k, none⟩ = some (.string ks[k]) := keep_below HX.out.1.b _ _ (hkc k _ (List.getElem?_eq_getElem hlt))
      have qx : wx.cell? ⟨w.heap.size, 1, none⟩ = some (.slice (some ⟨b, off, none⟩) is.length cap) := blk_cell (j := 1) HX.out.2 rfl
      have HTI : Hid (Tis w S (is[k]) (cs k)) := hti
      have hz : (ks.zip is)[k]? = some (ks[k], is[k]) := by rw [List.getElem?_zip_eq_some]; exact ⟨List.getElem?_eq_getElem hlt, List.getElem?_eq_getElem hil⟩
      have HPK : Hid (ps[2 * k]? = some (.text ks[k]) ∧ ps[2 * k + 1]? = some (prt is[k])) := by
        have h := pairs_get (fun x : ByteArray × Tv => Prt.text x.1) (fun x => prt x.2) (ks.zip is) k
        rw [hz] at h
        show _ ∧ _
        rw [HPS.out]
        exact h
      have HSK := hide (HKZ.out _ (List.getElem_mem hlt))
      generalize ks[k] = key at *
      generalize is[k] = tk at *
      generalize cs k = cc at *
      have HLT := hide hlt
      obtain ⟨av, cv, hvv⟩ := own_slice7 HX.out.1.o
      subst hvv
      have hwx := HX.out.1.b
      have HTY : Hid (Tis wx (fun q => S q ∨ (Value.slice av (2 * k) cv).ownBlock = some q) tk cc) := tis_live7 HTI.out (Kp.of_below hwx) (fun q hq => by
        rcases hq with e | e
        · exact .inl e
        · exact .inr (HX.out.1.o.lt q e).1)
      have HPC := hide (partOf_any wx (fun q => S q ∨ (Value.slice av (2 * k) cv).ownBlock = some q) (fun q hq => by
        rcases hq with e | e
        · exact Nat.lt_of_lt_of_le (HSq.out q e) hwx.size
        · exact (HX.out.1.o.lt q e).2) tk cc HTY.out)
      clear hform hcell hts hti hnb e2 e3 hlt hil hkc hz hwx
      go_wp2_with (refine wpList_exec rfl (exec_valAt (g := b) (off := off + k * 13) (cs := cc) rfl rfl HSZ.out HCC.out) ?_)
      refine HPC.out.mono ?_
      rintro e w1 ⟨v1, rfl, hb1, hp1⟩
      obtain ⟨T1, x1, e1⟩ := pis_one hp1
      subst e1
      have hb2 := below_alloc4 w1 (.cells #[.iface 143 (.string key), .iface T1 x1] 110)
      have HX2 := hide ((HX.out.1.next hb1).next hb2)
      have HE2 : Hid ((w1.alloc (.cells #[.iface 143 (.string key), .iface T1 x1] 110)).heap[w.heap.size]? = some (.cells #[.slice (some ⟨bk, offk, none⟩) ks.length ck, .slice (some ⟨b, off, none⟩) is.length cap] 148 (0, 0))) := by
        have h3 := (hb1.block _ (blk_lt HX.out.2)).trans HX.out.2
        exact (hb2.block _ (blk_lt h3)).trans h3
      have HP2 := hide (hp1.live (Kp.of_below hb2) (fun _ hq => .inl hq))
      have HG2 := hide (heap_alloc_new w1 (.cells #[.iface 143 (.string key), .iface T1 x1] 110))
      have HBz : Hid (w.heap.size ≤ (w1.alloc (.cells #[.iface 143 (.string key), .iface T1 x1] 110)).heap.size) := HX2.out.b.size
      clear hb1 hp1 hb2 HPC HTY ck0 qx
      go_wp2_with (at_builtin; refine append_parts rfl _ _ rfl w.heap.size _ (2 * k) vs rfl HX2.out.o w1.heap.size 2 [.iface 143 (.string key), .iface T1 x1] rfl rfl HG2.out (fun u hu => by simp at hu; rcases hu with e | e <;> (rw [e]; rfl)) (by omega) HBz.out ?_)
      intro v3 w3 h1 h2 h3
      have HX3 : Hid (Bl7 w w3 S ps (2 * (k + 1)) v3 (vs ++ [.iface 143 (.string key), .iface T1 x1])) := HX2.out.add (m := 2) (us := [.iface 143 (.string key), .iface T1 x1]) h1 h2 h3 (fun i p v hp hv => by
        match i, hp, hv with
        | 0, hp, hv =>
          rw [Nat.add_zero, HPK.out.1] at hp
          injection hp with hp
          subst hp
          have e5 : v = .iface 143 (.string key) := by simpa using hv.symm
          rw [e5]
          exact ⟨rfl, HSK.out⟩
        | 1, hp, hv =>
          rw [HPK.out.2] at hp
          injection hp with hp
          subst hp
          have e5 : v = .iface T1 x1 := by simpa using hv.symm
          rw [e5]
          exact HP2.out
        | i + 2, hp, hv => simp at hv)
      have HE3 : Hid (w3.heap[w.heap.size]? = some (.cells #[.slice (some ⟨bk, offk, none⟩) ks.length ck, .slice (some ⟨b, off, none⟩) is.length cap] 148 (0, 0))) := ((kp_grown h2).block _ (blk_lt HE2.out) (own_not HX2.out.o HE2.out (by decide))).trans HE2.out
      obtain ⟨a3, c3, hv3⟩ := own_slice7 HX3.out.o
      subst hv3
      clear h1 h2 h3 HX2 HP2 HG2 HBz HE2 HX HCC
      go_wp2_with fail
      go_roundw
      case rel => exact ⟨k + 1, _, by have := HLT.out; omega, by go_num, hide ⟨HX3.out, HE3.out⟩⟩
      case measure => have := HLT.out; simp [intOf]; omega
    · as_aux_lemma =>
      have g1 : ¬ (k : Int) < (ks.length : Int) := by omega
      have HF : Hid (BelP w S ps (.returned u3) wx) := HX.out.1.out (by rw [HPL.out]; have := HKL.out; omega)
      clear hlt
      go_wp2_with fail
      go_ret
      exact HF.out
end
section
open Go.RowKit Go
def pm : Prt → Nat
  | .list is => tmuchL is + 1
  | .entries _ is => tmuchL is + 1
  | _ => 0
def Pok : Prt → Prop
  | .list is => ∀ u ∈ is, Ptr u
  | .entries ks is => ks.length = is.length ∧ ∀ u ∈ is, Ptr u
  | _ => True
theorem pok_prt {t : Tv} (h : Ptr t) : Pok (prt t) := by
  cases h with
  | mk _ hk h7 h9 hi =>
    unfold prt
    repeat' split
    all_goals first | exact trivial | exact hi | (rename_i h; exact ⟨h9 h, hi⟩) | (rename_i h _; exact ⟨h9 h, hi⟩)
theorem pm_prt (t : Tv) : pm (prt t) ≤ tmuch t := by
  obtain ⟨k, f, g, n, b, s, y, l, ks, is⟩ := t
  unfold prt tmuch
  simp only [Tv.is, Tv.ks]
  repeat' split
  all_goals first | (show (0 : Nat) ≤ _; omega) | (show tmuchL is + 1 ≤ _; omega)
theorem tmuch_mem : ∀ {is : List Tv} {u : Tv}, u ∈ is → tmuch u ≤ tmuchL is
  | [], _, h => by cases h
  | t :: r, u, h => by
    rw [tmuchL]
    rcases List.mem_cons.1 h with e | e
    · rw [e]; omega
    · have := tmuch_mem e
      omega
theorem pm_item {is : List Tv} {u : Tv} (h : u ∈ is) : pm (prt u) < tmuchL is + 1 := Nat.lt_succ_of_le (Nat.le_trans (pm_prt u) (tmuch_mem h))
theorem pbl_ok {p q : Prt} (h : Pok p) (hq : q ∈ pbl p) : Pok q ∧ pm q < pm p := by
  cases p with
  | list is =>
    obtain ⟨u, hu, e⟩ := List.mem_map.1 hq
    subst e
    exact ⟨pok_prt (h u hu), pm_item hu⟩
  | entries ks is =>
    obtain ⟨x, hx, hq⟩ := List.mem_flatMap.1 hq
    have hx2 := (List.of_mem_zip hx).2
    rcases List.mem_cons.1 hq with e | e
    · subst e
      exact ⟨trivial, Nat.lt_of_le_of_lt (Nat.zero_le _) (pm_item hx2)⟩
    · simp only [List.mem_singleton] at e
      subst e
      exact ⟨pok_prt (h.2 _ hx2), pm_item hx2⟩
  | null => cases hq
  | truth b => cases hq
  | whole g n => cases hq
  | float b => cases hq
  | text s => cases hq
  | octets y => cases hq
  | name y => cases hq
theorem tfmL_flat : ∀ {is : List Tv}, (∀ u ∈ is, Ptr u) → tfmL is = ((is.map prt).map pall).flatten
  | [], _ => by rw [tfmL]; rfl
  | t :: r, h => by
    rw [tfmL, tfmL_flat (fun u hu => h u (List.mem_cons_of_mem _ hu)), ← pall_prt (h t (List.mem_cons_self ..))]
    rfl
theorem tfmK_flat : ∀ {ks : List ByteArray} {is : List Tv}, ks.length = is.length → (∀ u ∈ is, Ptr u) → tfmK ks is = (((ks.zip is).flatMap fun x => [Prt.text x.1, prt x.2]).map pall).flatten
  | [], [], _, _ => by rw [tfmK]; rfl
  | k :: ks, t :: r, hl, h => by
    rw [tfmK, tfmK_flat (by simpa using hl) (fun u hu => h u (List.mem_cons_of_mem _ hu)), ← pall_prt (h t (List.mem_cons_self ..))]
    simp [pall, pfm]
  | [], t :: r, hl, _ => by simp at hl
  | k :: ks, [], hl, _ => by simp at hl
theorem pall_split {p : Prt} (h : Pok p) : pall p = pfm p ++ ((pbl p).map pall).flatten := by
  cases p with
  | list is =>
    show hl 4 is.length ++ tfmL is = hl 4 is.length ++ _
    rw [tfmL_flat h]
    rfl
  | entries ks is =>
    show hl 5 ks.length ++ tfmK ks is = hl 5 ks.length ++ _
    rw [tfmK_flat h.1 h.2]
    rfl
  | null => rfl
  | truth b => rfl
  | whole g n => simp [pall, pbl]
  | float b => simp [pall, pbl]
  | text s => simp [pall, pbl]
  | octets y => simp [pall, pbl]
  | name y => simp [pall, pbl]
theorem pall_pos (p : Prt) : 0 < (pall p).length := by
  cases p with
  | list is => show 0 < (hl 4 is.length ++ tfmL is).length; rw [List.length_append, hl_len7]; unfold hsize; omega
  | entries ks is => show 0 < (hl 5 ks.length ++ tfmK ks is).length; rw [List.length_append, hl_len7]; unfold hsize; omega
  | null => exact Nat.one_pos
  | truth b => exact Nat.one_pos
  | whole g n => show 0 < (hl _ n).length; rw [hl_len7]; unfold hsize; omega
  | float b => show 0 < (251 :: be 8 b).length; simp
  | text s => show 0 < (kfm s).length; unfold kfm; rw [List.length_append, hl_len7]; unfold hsize; omega
  | octets y => show 0 < (hl 2 y.length ++ y).length; rw [List.length_append, hl_len7]; unfold hsize; omega
  | name y => show 0 < (hl 6 42 ++ (hl 2 y.length ++ y)).length; rw [List.length_append, hl_len7]; unfold hsize; omega
theorem flat_len7 : ∀ (l : List Prt), l.length ≤ ((l.map pall).flatten).length
  | [] => Nat.le_refl _
  | p :: r => by
    have h1 := pall_pos p
    have h2 := flat_len7 r
    simp only [List.map_cons, List.flatten_cons, List.length_append, List.length_cons]
    omega
theorem below_any (w : World) (S : Nat → Prop) (hS : ∀ q, S q → q < w.heap.size) (p : Prt) (v : Value) (hp : Pis w S p v) (hok : Pok p) (hl : (pall p).length ≤ 1000000000) : Calls Tryz.prog 83 #[v] w (BelP w S (pbl p)) := by
  have h1 := pall_split hok
  have h2 := flat_len7 (pbl p)
  have h3 : (pbl p).length ≤ 1000000000 := by
    rw [h1, List.length_append] at hl
    omega
  cases p with
  | list is => exact below_list w S hS is v hp (by have h4 : (is.map prt).length ≤ 1000000000 := h3; rw [List.length_map] at h4; exact h4)
  | entries ks is =>
    have h4 : ((ks.zip is).flatMap fun x => [Prt.text x.1, prt x.2]).length ≤ 1000000000 := h3
    rw [pairs_len, List.length_zip, hok.1, Nat.min_self] at h4
    exact below_entries w S hS ks is v hp (by omega) hok.1
  | null => exact below_none w S _ v hp (fun _ h => by cases h) (fun _ _ h => by cases h)
  | truth b => exact below_none w S _ v hp (fun _ h => by cases h) (fun _ _ h => by cases h)
  | whole g n => exact below_none w S _ v hp (fun _ h => by cases h) (fun _ _ h => by cases h)
  | float b => exact below_none w S _ v hp (fun _ h => by cases h) (fun _ _ h => by cases h)
  | text s => exact below_none w S _ v hp (fun _ h => by cases h) (fun _ _ h => by cases h)
  | octets y => exact below_none w S _ v hp (fun _ h => by cases h) (fun _ _ h => by cases h)
  | name y => exact below_none w S _ v hp (fun _ h => by cases h) (fun _ _ h => by cases h)
end
section
open Go.RowKit Go
def SizC (p : Prt) : Prop := ∀ (w : World) (S : Nat → Prop) (v : Value), (∀ q, S q → q < w.heap.size) → Pis w S p v → Pok p → (pall p).length ≤ 1000000000 → Calls Tryz.prog 58 #[v] w fun e w' => e = .returned (.int .i64 ((pall p).length : Nat)) ∧ Below w.heap.size w w'
theorem pall_take {p : Prt} {k : Nat} {q : Prt} (h : (pbl p)[k]? = some q) : (((pbl p).take (k + 1)).map pall).flatten = (((pbl p).take k).map pall).flatten ++ pall q := by
  obtain ⟨hk, e⟩ := List.getElem?_eq_some_iff.1 h
  rw [List.take_succ_eq_append_getElem hk, e]
  simp
theorem size_step (p : Prt) (ih : ∀ q, pm q < pm p → SizC q) : SizC p := by
  intro w S v hS hp hok hl
  have HIH := hide ih
  have HSq := hide hS
  have HP := hide hp
  have HOK := hide hok
  have HL := hide hl
  have HSP := hide (pall_split hok)
  have HPZ := hide (psz_len p)
  obtain ⟨T0, x0, e0⟩ := pis_one hp
  subst e0
  clear ih hS hp hok hl
  go_enter Tryz.func58, Tryz.ntmps58
  go_upto_region 1 with fail
  go_cut [3] from 6 to 8 (fun vv wx => vv = .int .i64 (psz p : Nat) ∧ Hid (Below w.heap.size w wx))
  case first =>
    clear HIH HOK HL HSP HPZ HSq
    cases p with
    | null => as_aux_lemma =>
      have e : Value.iface T0 x0 = .iface 149 (.agg #[]) := HP.out
      injection e with e1 e2
      subst e1
      subst e2
      have hm : ∀ w, (method 342 149 (.agg #[]) "trellis/lay.size").run Tryz.prog w = .ok (202, .agg #[]) w := fun _ => by kernel_rfl
      go_wp2_with fail
      refine (nullSize_any _).mono ?_
      rintro e w1 ⟨rfl, hb1⟩
      have HBB : Hid (Below w.heap.size w w1) := hb1
      clear hb1 hm
      go_wp2_with fail
      go_meet
      case rel => exact ⟨rfl, HBB⟩
    | truth b => as_aux_lemma =>
      have e : Value.iface T0 x0 = .iface 139 (.bool b) := HP.out
      injection e with e1 e2
      subst e1
      subst e2
      have hm : ∀ w, (method 342 139 (.bool b) "trellis/lay.size").run Tryz.prog w = .ok (185, .bool b) w := fun _ => by kernel_rfl
      go_wp2_with fail
      refine (truthSize_any b _).mono ?_
      rintro e w1 ⟨rfl, hb1⟩
      have HBB : Hid (Below w.heap.size w w1) := hb1
      clear hb1 hm
      go_wp2_with fail
      go_meet
      case rel => exact ⟨rfl, HBB⟩
    | whole g n => as_aux_lemma =>
      have e : Value.iface T0 x0 = .iface 141 (.agg #[.bool g, .int .u64 (n : Nat)]) := HP.out.1
      injection e with e1 e2
      subst e1
      subst e2
      have hm : ∀ w, (method 342 141 (.agg #[.bool g, .int .u64 (n : Nat)]) "trellis/lay.size").run Tryz.prog w = .ok (187, .agg #[.bool g, .int .u64 (n : Nat)]) w := fun _ => by kernel_rfl
      go_wp2_with fail
      refine (wholeSize_any g n HP.out.2 _).mono ?_
      rintro e w1 ⟨rfl, hb1⟩
      have HBB : Hid (Below w.heap.size w w1) := hb1
      clear hb1 hm
      go_wp2_with fail
      go_meet
      case rel => exact ⟨rfl, HBB⟩
    | float b => as_aux_lemma =>
      have e : Value.iface T0 x0 = .iface 142 (.int .u64 (b : Nat)) := HP.out.1
      injection e with e1 e2
      subst e1
      subst e2
      have hm : ∀ w, (method 342 142 (.int .u64 (b : Nat)) "trellis/lay.size").run Tryz.prog w = .ok (191, .int .u64 (b : Nat)) w := fun _ => by kernel_rfl
      go_wp2_with fail
      refine (floatSize_any b _).mono ?_
      rintro e w1 ⟨rfl, hb1⟩
      have HBB : Hid (Below w.heap.size w w1) := hb1
      clear hb1 hm
      go_wp2_with fail
      go_meet
      case rel => exact ⟨rfl, HBB⟩
    | text s => as_aux_lemma =>
      have e : Value.iface T0 x0 = .iface 143 (.string s) := HP.out.1
      injection e with e1 e2
      subst e1
      subst e2
      have hm : ∀ w, (method 342 143 (.string s) "trellis/lay.size").run Tryz.prog w = .ok (193, .string s) w := fun _ => by kernel_rfl
      go_wp2_with fail
      refine (textSize_any s HP.out.2 _).mono ?_
      rintro e w1 ⟨rfl, hb1⟩
      have HBB : Hid (Below w.heap.size w w1) := hb1
      clear hb1 hm
      go_wp2_with fail
      go_meet
      case rel => exact ⟨rfl, HBB⟩
    | octets y => as_aux_lemma =>
      obtain ⟨vb, e, hb, -, hyl⟩ := HP.out
      injection e with e1 e2
      obtain ⟨⟨a, c, hv, _, _⟩, _, _⟩ := hb
      subst hv
      subst e1
      subst e2
      have HOC : Hid (y.length ≤ 140737488351232) := hyl
      clear hyl
      have hm : ∀ w, (method 342 144 (.slice a y.length c) "trellis/lay.size").run Tryz.prog w = .ok (196, .slice a y.length c) w := fun _ => by kernel_rfl
      go_wp2_with fail
      refine (octetsSize_any a y.length c HOC.out _).mono ?_
      rintro e w1 ⟨rfl, hb1⟩
      have HBB : Hid (Below w.heap.size w w1) := by rw [hb1]; exact Below.refl _ _
      clear hb1 hm
      go_wp2_with fail
      go_meet
      case rel => exact ⟨rfl, HBB⟩
    | name y => as_aux_lemma =>
      obtain ⟨vb, e, hb, -, -, hyl⟩ := HP.out
      injection e with e1 e2
      obtain ⟨⟨a, c, hv, _, _⟩, _, _⟩ := hb
      subst hv
      subst e1
      subst e2
      have HOC : Hid (y.length ≤ 140737488351232) := by show _ ≤ _; omega
      clear hyl
      have hm : ∀ w, (method 342 188 (.agg #[.slice a y.length c]) "trellis/lay.size").run Tryz.prog w = .ok (204, .agg #[.slice a y.length c]) w := fun _ => by kernel_rfl
      go_wp2_with fail
      refine (nameSize_any a y.length c HOC.out _).mono ?_
      rintro e w1 ⟨rfl, hb1⟩
      have HBB : Hid (Below w.heap.size w w1) := hb1
      clear hb1 hm
      go_wp2_with fail
      go_meet
      case rel => exact ⟨rfl, HBB⟩
    | list is => as_aux_lemma =>
      obtain ⟨vi, e, hvi⟩ := HP.out
      injection e with e1 e2
      have HOC : Hid (is.length ≤ 140737488351232) := hvi.max
      obtain ⟨⟨a, c, cx, hv, -, -, -⟩, -⟩ := hvi
      subst hv
      subst e1
      subst e2
      have hm : ∀ w, (method 342 146 (.slice a is.length c) "trellis/lay.size").run Tryz.prog w = .ok (198, .slice a is.length c) w := fun _ => by kernel_rfl
      go_wp2_with fail
      refine (listSize_any a is.length c HOC.out _).mono ?_
      rintro e w1 ⟨rfl, hb1⟩
      have HBB : Hid (Below w.heap.size w w1) := hb1
      clear hb1 hm
      go_wp2_with fail
      go_meet
      case rel => exact ⟨rfl, HBB⟩
    | entries ks is => as_aux_lemma =>
      obtain ⟨vk, vi, e, hk, -, -⟩ := HP.out
      injection e with e1 e2
      have HOC : Hid (ks.length ≤ 140737488351232) := hk.max
      obtain ⟨⟨a, c, hv, _, _⟩, _, _⟩ := hk
      subst hv
      subst e1
      subst e2
      have hm : ∀ w, (method 342 148 (.agg #[.slice a ks.length c, vi]) "trellis/lay.size").run Tryz.prog w = .ok (200, .agg #[.slice a ks.length c, vi]) w := fun _ => by kernel_rfl
      go_wp2_with fail
      refine (entriesSize_any a ks.length c vi HOC.out _).mono ?_
      rintro e w1 ⟨rfl, hb1⟩
      have HBB : Hid (Below w.heap.size w w1) := hb1
      clear hb1 hm
      go_wp2_with fail
      go_meet
      case rel => exact ⟨rfl, HBB⟩
  obtain ⟨rfl, HB1⟩ := hcut
  have HP1 := hide (HP.out.live (Kp.of_below HB1.out) (fun _ hq => .inl hq))
  have HBC := hide (below_any wc S (fun q hq => Nat.lt_of_lt_of_le (HSq.out q hq) HB1.out.size) p _ HP1.out HOK.out HL.out)
  go_wp2_with fail
  refine HBC.out.mono ?_
  rintro e w2 ⟨vp, vs, rfl, hb2, ho2, hp2⟩
  have HB2 : Hid (Below w.heap.size w w2) := HB1.out.trans (hb2.mono HB1.out.size)
  obtain ⟨av, cv, hvv⟩ := own_slice7 ho2
  subst hvv
  have HO2 := hide ho2
  have HP2 := hide hp2
  have HPB : Hid (∀ k q, (pbl p)[k]? = some q → Pok q ∧ pm q < pm p) := fun k q hq => pbl_ok HOK.out (List.mem_of_getElem? hq)
  have HTK : Hid (∀ k q, (pbl p)[k]? = some q → (((pbl p).take (k + 1)).map pall).flatten = (((pbl p).take k).map pall).flatten ++ pall q) := fun k q hq => pall_take hq
  have HLE : Hid (∀ k, psz p + (((pbl p).take k).map pall).flatten.length ≤ (pall p).length) := fun k => by
    have h1 := HSP.out
    have h2 : (((pbl p).take k).map pall).flatten.length ≤ ((pbl p).map pall).flatten.length := by
      have e : (pbl p).map pall = ((pbl p).take k).map pall ++ ((pbl p).drop k).map pall := by rw [← List.map_append, List.take_append_drop]
      rw [e, List.flatten_append, List.length_append]
      omega
    rw [h1, List.length_append, HPZ.out]
    omega
  have HFN : Hid (psz p + (((pbl p).take (pbl p).length).map pall).flatten.length = (pall p).length) := by
    show _ = _
    rw [List.take_length, HSP.out, List.length_append, HPZ.out]
  have HPL : Hid ((pbl p).length ≤ 1000000000) := by
    have h1 := flat_len7 (pbl p)
    have h2 := HL.out
    have h3 := HSP.out
    show _ ≤ _
    rw [h3, List.length_append] at h2
    omega
  generalize pbl p = ps at *
  have hpl := HPL.out
  clear hb2 ho2 hp2 HBC HP HP1 HB1
  go_wp2_with fail
  go_loopw [3, 11] (fun nn kk wx => ∃ (k : Nat) (m : Nat), k ≤ ps.length ∧ kk = .int .i64 (k : Nat) ∧ nn = .int .i64 (m : Nat) ∧ Hid (m = psz p + ((ps.take k).map pall).flatten.length) ∧ Hid (Below w2.heap.size w2 wx)) (fun _ kk _ => ps.length - (intOf kk).toNat)
  case atStart => exact ⟨0, psz p, by omega, rfl, rfl, hide (by simp), hide (Below.refl _ _)⟩
  case round =>
    rename World => wx
    obtain ⟨k, m, hk, rfl, rfl, HM, HBX⟩ := hrel
    by_cases hlt : k < ps.length
    · as_aux_lemma =>
      have g1 : (k : Int) < (ps.length : Int) := by omega
      have hvl : vs.length = ps.length := by have := HO2.out.1; omega
      obtain ⟨g, hag⟩ : ∃ g, av = some ⟨g, 0, none⟩ := by
        rcases HO2.out.2 with ⟨_, h1⟩ | ⟨g', c', cur, e, _⟩
        · omega
        · injection e with e1 _ _
          exact ⟨g', e1⟩
      subst hag
      have hvk : vs[k]? = some vs[k] := List.getElem?_eq_getElem (by omega)
      have hpk : ps[k]? = some ps[k] := List.getElem?_eq_getElem hlt
      have ck : wx.cell? ⟨g, k, none⟩ = some vs[k] := by
        have h := HO2.out.cells (g := g) rfl k _ hvk
        rw [addr_add, Nat.zero_add] at h
        exact keep_below HBX.out _ _ h
      obtain ⟨hok, hpm⟩ := HPB.out k _ hpk
      have hpis := (HP2.out k _ _ hpk hvk).live (Kp.of_below HBX.out) (fun _ hq => .inl hq)
      have htk := HTK.out k _ hpk
      have hle := HLE.out (k + 1)
      rw [htk, List.length_append] at hle
      have hll := HL.out
      have HQC := hide (HIH.out _ hpm wx S _ (fun q hq => Nat.lt_of_lt_of_le (HSq.out q hq) (Nat.le_trans HB2.out.size HBX.out.size)) hpis hok (by omega))
      have hmm : m + (pall ps[k]).length ≤ 1000000000 := by have := HM.out; omega
      have HM2 : Hid (m + (pall ps[k]).length = psz p + ((ps.take (k + 1)).map pall).flatten.length) := by show _ = _; rw [htk, List.length_append, HM.out]; omega
      obtain ⟨T1, x1, e1⟩ := pis_one hpis
      rw [e1] at ck HQC
      generalize (pall ps[k]).length = z at *
      have e3 : IntKind.i64.wrap ((m : Int) + (z : Int)) = ((m + z : Nat) : Int) := by rw [IntKind.wrap_i64]; omega
      have HLT := hide hlt
      clear hok hpm hpis htk hle hll hvk hpk hvl hlt hmm e1
      go_wp2_with fail
      refine HQC.out.mono ?_
      rintro e w3 ⟨rfl, hb3⟩
      have HB3 : Hid (Below w2.heap.size w2 w3) := HBX.out.trans (hb3.mono HBX.out.size)
      clear hb3 ck HQC
      go_wp2_with fail
      go_roundw
      case rel => exact ⟨k + 1, m + z, by have := HLT.out; omega, by go_num, by go_num, HM2, HB3⟩
      case measure => have := HLT.out; simp [intOf]; omega
    · as_aux_lemma =>
      have g1 : ¬ (k : Int) < (ps.length : Int) := by omega
      have HE : Hid (m = (pall p).length) := by
        show _ = _
        rw [HM.out, ← HFN.out, show k = ps.length by omega]
      have HBF : Hid (Below w.heap.size w wx) := HB2.out.trans (HBX.out.mono HB2.out.size)
      clear hlt
      go_wp2_with fail
      go_ret
      exact ⟨by rw [HE.out]; rfl, HBF.out⟩
theorem size7_any (p : Prt) : SizC p := by
  have key : ∀ N p, pm p < N → SizC p := by
    intro N
    induction N with
    | zero => intro p h; omega
    | succ N ih => intro p h; exact size_step p (fun q hq => ih q (by omega))
  exact key _ p (Nat.lt_succ_self _)
end
end Go.Proofs.YtmcamdcgnegmmaaGreatDoor
