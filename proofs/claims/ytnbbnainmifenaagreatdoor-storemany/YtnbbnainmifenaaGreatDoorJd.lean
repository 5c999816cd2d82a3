import Derived.Test.YtnbbnainmifenaaGreatDoorJc
import Derived.Great.BuildSlice
import Derived.Great.FillDense
import Derived.Maps.AppendAt
import Derived.Test.YtnbbnainmifenaaGreatDoorJb
import Derived.Test.YtnbbnainmifenaaGreatDoorJa
import Derived.Maps.OwnSet
import Derived.Maps.OwnOps
import Derived.Maps.RangeWalk
import Derived.DeepKeys5
import Derived.Laws.ResultCell
import Derived.Deep.RegionHeld
import Derived.Defers
import Derived.Laws.Pointers
import Derived.Laws.LoneSync
import Derived.RegionCalls
import Derived.Laws.NewBlocks
namespace Go.Proofs.YtnbbnainmifenaaGreatDoor
section
open Go.RowKit Go
def gfl (l : List (Array Value)) : List Value := l.flatMap (·.toList)
theorem gfl_app (a b : List (Array Value)) : gfl (a ++ b) = gfl a ++ gfl b := by simp [gfl]
theorem gfl_len {k : Nat} : ∀ {l : List (Array Value)}, (∀ c ∈ l, c.size = k) → (gfl l).length = l.length * k
  | [], _ => by simp [gfl]
  | c :: r, h => by
    have ih := gfl_len (l := r) (fun x hx => h x (List.mem_cons_of_mem _ hx))
    have h0 := h c (List.mem_cons_self ..)
    have e : gfl (c :: r) = c.toList ++ gfl r := by simp [gfl]
    rw [e, List.length_append, ih, List.length_cons, Nat.succ_mul, Array.length_toList, h0, Nat.add_comm]
theorem gfl_get {n : Nat} : ∀ {l : List (Array Value)}, (∀ c ∈ l, c.size = n) → ∀ (k : Nat) (c : Array Value) (j : Nat) (u : Value), l[k]? = some c → c[j]? = some u → (gfl l)[k * n + j]? = some u
  | [], _, k, c, j, u, hk, _ => by cases hk
  | x :: r, h, 0, c, j, u, hk, hj => by
    have e : gfl (x :: r) = x.toList ++ gfl r := by simp [gfl]
    have hx : x = c := by simpa using hk
    subst hx
    rw [e, Nat.zero_mul, Nat.zero_add, List.getElem?_append_left (by have := (Array.getElem?_eq_some_iff.1 hj).1; simpa using this)]
    simpa using hj
  | x :: r, h, k + 1, c, j, u, hk, hj => by
    have e : gfl (x :: r) = x.toList ++ gfl r := by simp [gfl]
    have h0 := h x (List.mem_cons_self ..)
    have ih := gfl_get (fun y hy => h y (List.mem_cons_of_mem _ hy)) k c j u (by simpa using hk) hj
    rw [e, List.getElem?_append_right (by rw [Array.length_toList, h0, Nat.succ_mul]; omega), Array.length_toList, h0, Nat.succ_mul, show k * n + n + j - n = k * n + j by omega]
    exact ih
theorem addr0 (g j : Nat) : (⟨g, 0, none⟩ : Addr).add j = ⟨g, j, none⟩ := by unfold Addr.add; split <;> simp_all
theorem info_ex {T : TypeId} {z : Value} {k by' : Nat} (h : (Tryz.prog.info? T).map (fun i => (i.zero, i.size, i.bytes)) = some (some z, k, by')) : ∃ i, Tryz.prog.info? T = some i ∧ i.zero = some z ∧ i.size = k ∧ i.bytes = by' := by
  cases hi : Tryz.prog.info? T with
  | none => rw [hi] at h; cases h
  | some i =>
    rw [hi] at h
    injection h with h
    injection h with h1 h2
    injection h2 with h2 h3
    exact ⟨i, rfl, h1, h2, h3⟩
theorem append_gB {ops : Array Oper} {rest : List Oper} {o : Oper} {a : Act} {Q : Exit → Act → World → Prop} {w : World} {S T : TypeId} {z : Value} {k by' : Nat} (hI : (Tryz.prog.info? T).map (fun i => (i.zero, i.size, i.bytes)) = some (some z, k, by')) (hS : Tryz.prog.underlying S = some (.slice T)) (hzs : z.cells.size = k) (hk : 0 < k) (hgd : o.guard = none) {s x : Operand}
    (ho : o.op = .call { callee := .builtin .append, args := #[s, x], argTypes := #[S, S] }) {B : Nat} {v : Value} {L : List (Array Value)} (hs : a.eval s = v) (hown : w.ownsRow B T k v L.length (gfl L))
    {g : Nat} {c : Array Value} (hx : a.eval x = .slice (some ⟨g, 0, none⟩) 1 1) (hg : w.heap[g]? = some (.cells c T (0, 0))) (hc : c.size = k) (h1 : ∀ u ∈ c.toList, u.oneCell' = true) (hlen : L.length + 1 ≤ 140737488355328) (hb : (L.length + 1) * by' ≤ 140737488355328) (hbase : B ≤ w.heap.size)
    (h : ∀ v' w', w'.ownsRow B T k v' (L.length + 1) (gfl (L ++ [c])) → w.grownBy w' v.ownBlock → (v'.ownBlock = v.ownBlock ∨ v'.ownBlock = some w.heap.size) → wpList Tryz.prog ops Q rest (a.put o.dst v') w') : wpList Tryz.prog ops Q (o :: rest) a w := by
  obtain ⟨i, hi, hz0, hz1, hz2⟩ := info_ex hI
  refine wpList_append_own_at w hgd s x S ho B T i z k by' hS hi hz0 hz1 hz2 hzs hk v L.length (gfl L) hs hown ⟨g, 0, none⟩ 1 1 c.toList hx (by simp [hc]) (fun j u hu => ?_) h1 (by unfold maxLen; omega) hb hbase fun v' w' h1 h2 _ h4 => h v' w' (by rw [gfl_app]; simpa [gfl] using h1) h2 h4
  rw [addr0]
  exact blk_cell hg (by simpa using hu)
theorem append_g {ops : Array Oper} {rest : List Oper} {o : Oper} {a : Act} {Q : Exit → Act → World → Prop} {w : World} {S T : TypeId} {z : Value} {k by' : Nat} (hI : (Tryz.prog.info? T).map (fun i => (i.zero, i.size, i.bytes)) = some (some z, k, by')) (hS : Tryz.prog.underlying S = some (.slice T)) (hzs : z.cells.size = k) (hk : 0 < k) (hby : by' ≤ 1000) (hgd : o.guard = none) {s x : Operand}
    (ho : o.op = .call { callee := .builtin .append, args := #[s, x], argTypes := #[S, S] }) {B : Nat} {v : Value} {L : List (Array Value)} (hs : a.eval s = v) (hown : w.ownsRow B T k v L.length (gfl L))
    {g : Nat} {c : Array Value} (hx : a.eval x = .slice (some ⟨g, 0, none⟩) 1 1) (hg : w.heap[g]? = some (.cells c T (0, 0))) (hc : c.size = k) (h1 : ∀ u ∈ c.toList, u.oneCell' = true) (hlen : L.length ≤ 1000000) (hbase : B ≤ w.heap.size)
    (h : ∀ v' w', w'.ownsRow B T k v' (L.length + 1) (gfl (L ++ [c])) → w.grownBy w' v.ownBlock → (v'.ownBlock = v.ownBlock ∨ v'.ownBlock = some w.heap.size) → wpList Tryz.prog ops Q rest (a.put o.dst v') w') : wpList Tryz.prog ops Q (o :: rest) a w := by
  have hb : (L.length + 1) * by' ≤ 140737488355328 := by
    have : (L.length + 1) * by' ≤ 1000001 * 1000 := Nat.mul_le_mul (by omega) hby
    omega
  exact append_gB hI hS hzs hk hgd ho hs hown hx hg hc h1 (by omega) hb hbase h
theorem own_formG {w : World} {B : Nat} {e : TypeId} {k : Nat} {v : Value} {n : Nat} {xs : List Value} (h : w.ownsRow B e k v n xs) : ∃ a cap, v = .slice a n cap ∧ (0 < n → ∃ g, a = some ⟨g, 0, none⟩) := by
  rcases h.2 with ⟨rfl, h0⟩ | ⟨g, cap, cur, rfl, _⟩
  · exact ⟨none, 0, by rw [h0], fun hp => by omega⟩
  · exact ⟨_, cap, rfl, fun _ => ⟨g, rfl⟩⟩
theorem own_elt {w : World} {B g n m cap k i : Nat} {T : TypeId} {L : List (Array Value)} {c : Array Value} (h : w.ownsRow B T k (.slice (some ⟨g, 0, none⟩) m cap) n (gfl L)) (hl : ∀ c ∈ L, c.size = k) (hi : L[i]? = some c) : ∀ j u, c[j]? = some u → w.cell? ⟨g, 0 + i * k + j, none⟩ = some u := fun j u hu => by
  have := h.cells (g := g) rfl (i * k + j) u (gfl_get hl i c j u hi hu)
  rw [addr0] at this
  rw [Nat.zero_add]
  exact this
theorem own_gsl {α : Type} {k : Nat} {P : World → α → Array Value → Prop} {w : World} {B : Nat} {T : TypeId} {v : Value} {L : List (Array Value)} {xs : List α} (h : w.ownsRow B T k v L.length (gfl L)) (hl : ∀ c ∈ L, c.size = k) (hn : L.length = xs.length) (hm : xs.length ≤ 140737488351232) (hp : ∀ (i : Nat) (x : α) (c : Array Value), xs[i]? = some x → L[i]? = some c → P w x c) : GSl k P w v xs := by
  rw [hn] at h
  refine ⟨?_, hm⟩
  rcases id h.2 with ⟨rfl, h0⟩ | ⟨g, cap, cur, rfl, h1, h2, h3, _⟩
  · have : xs = [] := List.length_eq_zero_iff.1 h0
    subst this
    exact ⟨none, 0, rfl, ⟨Nat.le_refl _, fun _ => rfl⟩, .inl rfl⟩
  · refine ⟨_, cap, rfl, ⟨?_, fun e => by cases e⟩, .inr ⟨g, 0, rfl, fun i x hi => ?_⟩⟩
    · omega
    · obtain ⟨hlt, _⟩ := List.getElem?_eq_some_iff.1 hi
      have hiL : L[i]? = some (L[i]'(by omega)) := List.getElem?_eq_getElem (by omega)
      exact ⟨_, hp i x _ hi hiL, own_elt h hl hiL⟩
end
section
open Go.RowKit Go

end
section
open Go.RowKit Go
abbrev Blk := Lk × List Nat
def atB (L : List Blk) (l : Lk) : Option (List Nat) := (L.find? (fun p => decide (p.1 = l))).map Prod.snd
def delB (L : List Blk) (l : Lk) : List Blk := L.filter (fun p => decide (p.1 ≠ l))
def putB (L : List Blk) (l : Lk) (b : List Nat) : List Blk := (l, b) :: delB L l
def szB (L : List Blk) : Nat := (L.map (·.2.length)).sum
def ndB (L : List Blk) : Prop := (L.map Prod.fst).Nodup
theorem atB_cons (p : Blk) (L : List Blk) (l : Lk) : atB (p :: L) l = if p.1 = l then some p.2 else atB L l := by
  unfold atB
  rw [List.find?_cons]
  by_cases h : p.1 = l
  · simp [h]
  · simp [h]
theorem delB_cons (p : Blk) (L : List Blk) (l : Lk) : delB (p :: L) l = if p.1 = l then delB L l else p :: delB L l := by
  unfold delB
  rw [List.filter_cons]
  by_cases h : p.1 = l
  · simp [h]
  · simp [h]
theorem atB_del (L : List Blk) (l k : Lk) : atB (delB L l) k = if k = l then none else atB L k := by
  induction L with
  | nil => simp [delB, atB]
  | cons p L ih =>
    rw [delB_cons, atB_cons]
    by_cases h : p.1 = l
    · rw [if_pos h, ih]
      by_cases hk : k = l
      · rw [if_pos hk, if_pos hk]
      · rw [if_neg hk, if_neg hk, if_neg (fun e => hk (e.symm.trans h))]
    · rw [if_neg h, atB_cons, ih]
      by_cases hp : p.1 = k
      · rw [if_pos hp, if_pos hp, if_neg (fun e => h (hp.trans e))]
      · rw [if_neg hp, if_neg hp]
theorem atB_put (L : List Blk) (l k : Lk) (b : List Nat) : atB (putB L l b) k = if k = l then some b else atB L k := by
  unfold putB
  rw [atB_cons, atB_del]
  by_cases h : l = k
  · rw [if_pos h, if_pos h.symm]
  · rw [if_neg h, if_neg (fun e => h e.symm), if_neg (fun e => h e.symm)]
theorem atB_mem {L : List Blk} {l : Lk} {b : List Nat} (h : atB L l = some b) : (l, b) ∈ L := by
  induction L with
  | nil => cases h
  | cons p L ih =>
    rw [atB_cons] at h
    by_cases hp : p.1 = l
    · rw [if_pos hp] at h
      obtain ⟨q, y⟩ := p
      simp only at hp
      subst hp
      obtain rfl : y = b := Option.some.inj h
      exact List.mem_cons_self
    · rw [if_neg hp] at h
      exact List.mem_cons_of_mem _ (ih h)
theorem atB_none {L : List Blk} {l : Lk} : atB L l = none ↔ l ∉ L.map Prod.fst := by
  induction L with
  | nil => simp [atB]
  | cons p L ih =>
    rw [atB_cons, List.map_cons, List.mem_cons, not_or]
    by_cases hp : p.1 = l
    · rw [if_pos hp]
      simp [hp]
    · rw [if_neg hp, ih]
      exact ⟨fun h => ⟨fun e => hp e.symm, h⟩, fun h => h.2⟩
theorem mem_atB {L : List Blk} (hn : ndB L) {p : Blk} (h : p ∈ L) : atB L p.1 = some p.2 := by
  induction L with
  | nil => cases h
  | cons q L ih =>
    unfold ndB at hn
    rw [List.map_cons, List.nodup_cons] at hn
    rw [atB_cons]
    rcases List.mem_cons.1 h with rfl | h
    · rw [if_pos rfl]
    · rw [if_neg (fun e => hn.1 (by rw [e]; exact List.mem_map_of_mem h))]
      exact ih hn.2 h
theorem delB_none {L : List Blk} {l : Lk} (h : atB L l = none) : delB L l = L := by
  rw [atB_none] at h
  unfold delB
  rw [List.filter_eq_self]
  intro p hp
  rw [decide_eq_true_iff]
  intro e
  exact h (e ▸ List.mem_map_of_mem hp)
theorem ndB_del {L : List Blk} (h : ndB L) (l : Lk) : ndB (delB L l) := List.Nodup.sublist (List.Sublist.map _ List.filter_sublist) h
theorem ndB_put {L : List Blk} (h : ndB L) (l : Lk) (b : List Nat) : ndB (putB L l b) := by
  unfold ndB putB
  rw [List.map_cons, List.nodup_cons]
  refine ⟨?_, ndB_del h l⟩
  have := atB_del L l l
  rw [if_pos rfl] at this
  exact atB_none.1 this
theorem len_del {L : List Blk} (h : ndB L) (l : Lk) : (delB L l).length + (if (atB L l).isSome then 1 else 0) = L.length := by
  induction L with
  | nil => rfl
  | cons p L ih =>
    unfold ndB at h
    rw [List.map_cons, List.nodup_cons] at h
    rw [delB_cons, atB_cons]
    by_cases hp : p.1 = l
    · rw [if_pos hp, if_pos hp, delB_none (atB_none.2 (hp ▸ h.1))]
      rfl
    · rw [if_neg hp, if_neg hp]
      have := ih h.2
      simp only [List.length_cons]
      omega
theorem sz_del {L : List Blk} (h : ndB L) (l : Lk) : szB (delB L l) + ((atB L l).getD []).length = szB L := by
  induction L with
  | nil => rfl
  | cons p L ih =>
    unfold ndB at h
    rw [List.map_cons, List.nodup_cons] at h
    rw [delB_cons, atB_cons]
    by_cases hp : p.1 = l
    · rw [if_pos hp, if_pos hp, delB_none (atB_none.2 (hp ▸ h.1))]
      simp [szB]
      omega
    · rw [if_neg hp, if_neg hp]
      have := ih h.2
      simp only [szB, List.map_cons, List.sum_cons] at this ⊢
      omega
theorem len_put {L : List Blk} (h : ndB L) (l : Lk) (b : List Nat) : (putB L l b).length + (if (atB L l).isSome then 1 else 0) = L.length + 1 := by
  have := len_del h l
  simp only [putB, List.length_cons]
  omega
theorem sz_put {L : List Blk} (h : ndB L) (l : Lk) (b : List Nat) : szB (putB L l b) + ((atB L l).getD []).length = szB L + b.length := by
  have := sz_del h l
  simp only [putB, szB, List.map_cons, List.sum_cons] at this ⊢
  omega
theorem mem_del {L : List Blk} {l : Lk} {p : Blk} (h : p ∈ delB L l) : p ∈ L := (List.mem_filter.1 h).1
theorem mem_put {L : List Blk} {l : Lk} {b : List Nat} {p : Blk} (h : p ∈ putB L l b) : p = (l, b) ∨ p ∈ L := (List.mem_cons.1 h).imp id mem_del
theorem same_len {L M : List Blk} (hL : ndB L) (hM : ndB M) (h : ∀ k, atB L k = atB M k) : L.Perm M := by
  have nodup_of : ∀ {K : List Blk}, ndB K → K.Nodup := fun {K} hK => List.Pairwise.of_map Prod.fst (fun a b hne e => hne (congrArg Prod.fst e)) hK
  refine (List.perm_ext_iff_of_nodup (nodup_of hL) (nodup_of hM)).2 (fun p => ?_)
  constructor
  · intro hp
    have := mem_atB hL hp
    rw [h] at this
    exact atB_mem this
  · intro hp
    have := mem_atB hM hp
    rw [← h] at this
    exact atB_mem this
def mrg (L d : List Blk) : List Blk := d.foldr (fun x acc => putB acc x.1 x.2) L
theorem mrg_cons (L : List Blk) (x : Blk) (d : List Blk) : mrg L (x :: d) = putB (mrg L d) x.1 x.2 := rfl
theorem ndB_mrg {L : List Blk} (h : ndB L) : ∀ d, ndB (mrg L d)
  | [] => h
  | x :: d => by rw [mrg_cons]; exact ndB_put (ndB_mrg h d) _ _
theorem atB_mrg (L : List Blk) : ∀ (d : List Blk) (k : Lk), atB (mrg L d) k = (atB d k).or (atB L k)
  | [], k => by simp [mrg, atB]
  | x :: d, k => by
    rw [mrg_cons, atB_put, atB_cons, atB_mrg L d k]
    by_cases h : x.1 = k
    · rw [if_pos h.symm, if_pos h]; rfl
    · rw [if_neg (fun e => h e.symm), if_neg h]
structure Dr where
  d : List Blk
  f : Nat
  g : Int
def drf (L : List Blk) : List Blk → Dr → Option Dr
  | [], s => some s
  | x :: r, s =>
    match atB s.d x.1 with
    | some b => if b = x.2 then drf L r s else none
    | none =>
      match atB L x.1 with
      | none => drf L r ⟨x :: s.d, s.f + 1, s.g + x.2.length⟩
      | some b => if b = x.2 then drf L r s else if dholds x.1.h x.1.d b then none else drf L r ⟨x :: s.d, s.f, s.g + (x.2.length - b.length)⟩
structure Drw (L : List Blk) (s : Dr) : Prop where
  nd : ndB s.d
  len : (mrg L s.d).length = L.length + s.f
  sz : (szB (mrg L s.d) : Int) = szB L + s.g
theorem Drw.start (L : List Blk) : Drw L ⟨[], 0, 0⟩ := ⟨List.nodup_nil, rfl, (Int.add_zero _).symm⟩
theorem ndB_cons {x : Blk} {d : List Blk} (h : ndB d) (hx : atB d x.1 = none) : ndB (x :: d) := by
  unfold ndB
  rw [List.map_cons, List.nodup_cons]
  exact ⟨atB_none.1 hx, h⟩
theorem Drw.step {L : List Blk} (hL : ndB L) {s : Dr} (h : Drw L s) {x : Blk} (hx : atB s.d x.1 = none) : Drw L ⟨x :: s.d, s.f + (if (atB L x.1).isSome then 0 else 1), s.g + (x.2.length - ((atB L x.1).getD []).length)⟩ := by
  have h1 := len_put (ndB_mrg hL s.d) x.1 x.2
  have h2 := sz_put (ndB_mrg hL s.d) x.1 x.2
  rw [atB_mrg, hx, Option.none_or] at h1 h2
  have h3 := h.len
  have h4 := h.sz
  refine ⟨ndB_cons h.nd hx, ?_, ?_⟩
  · rw [mrg_cons]
    split at h1
    · rename_i hh
      simp only [hh, if_true]
      omega
    · rename_i hh
      simp only [hh]
      simp only [Bool.false_eq_true, if_false]
      omega
  · rw [mrg_cons]
    simp only
    omega
end
section
open Go.RowKit Go
structure Lkx (l : Lk) : Prop extends Lkb l where
  v : -9223372036854775808 ≤ l.v ∧ l.v ≤ 9223372036854775807
theorem linkRow : (38 : Nat) < Tryz.prog.types.size := of_decide_eq_true (by kernel_rfl)
theorem linkDeep : Tryz.prog.keyType 38 = true := by kernel_rfl
theorem linkWide : (match Tryz.prog.underlying 38 with | some (.array _ _) | some (.struct _) => true | _ => false) = true := by rw [Tryz.underlying38]
theorem laidOut13 : laidOutB Tryz.prog = true := by kernel_rfl
set_option maxRecDepth 1000000 in
theorem lawK : Maps.Keyed Tryz.prog 38 := Maps.Keyed.of_law (deep_law_laid laidOut13 (m := 3) (by omega) linkRow (by kernel_rfl) linkWide)
theorem cellsL : Tryz.prog.cellsOf 38 = 4 := by kernel_rfl
theorem c3x : Tryz.prog.cellsOf 3 = 1 := by kernel_rfl
theorem cellsU : Tryz.prog.cellsOf 36 = 1 := by kernel_rfl
theorem c9x : Tryz.prog.cellsOf 9 = 1 := by kernel_rfl
def kll (l : Lk) : Lit := .string (keyBytes [.int .i64 l.v, .int .u64 (l.c : Nat), .int .u64 (l.h : Nat), .string (nstr l.d).data.toList])
theorem types_pos : ∃ d, Tryz.prog.types.size = d + 1 := ⟨Tryz.prog.types.size - 1, by have := linkRow; omega⟩
theorem wf_i64 {v : Int} : (Lit.int .i64 v).wf = true ↔ -9223372036854775808 ≤ v ∧ v ≤ 9223372036854775807 := by
  simp [Lit.wf, IntKind.min, IntKind.max, IntKind.signed, IntKind.bits]
theorem wf_u64 {v : Int} : (Lit.int .u64 v).wf = true ↔ 0 ≤ v ∧ v ≤ 18446744073709551615 := by
  simp [Lit.wf, IntKind.min, IntKind.max, IntKind.signed, IntKind.bits]
set_option maxRecDepth 1000000 in
theorem keyL {l : Lk} (h : Lkx l) : keyOf Tryz.prog 38 (lkv l) = some (kll l) := by
  obtain ⟨d, hd⟩ := types_pos
  have hc := h.c
  have hh := h.h
  have hz := h.n
  have w0 : (Lit.int .i64 l.v).wf = true := wf_i64.2 h.v
  have w1 : (Lit.int .u64 (l.c : Nat)).wf = true := wf_u64.2 ⟨by omega, by omega⟩
  have w2 : (Lit.int .u64 (l.h : Nat)).wf = true := wf_u64.2 ⟨by omega, by omega⟩
  have w3 : (nstr l.d).size ≤ maxLen := by rw [h.toLkb.size]; unfold maxLen; omega
  unfold keyOf
  rw [Tryz.underlying38, linkDeep]
  have hf : (lkv l).formed Tryz.prog 38 = true := by simp [lkv, Value.formed, Tryz.underlying38, cellsL]
  rw [hf, hd]
  simp [lkv, Value.cells, Program.keyLits, Tryz.underlying38, cellsL, c3x, cellsU, c9x, Tryz.underlying3, Tryz.underlying36, Tryz.underlying9, w0, w1, w2, w3, kll]
set_option maxRecDepth 1000000 in
theorem kl_i {d : Nat} {v : Value} {x : List Lit} (h : Tryz.prog.keyLits (d + 1) 3 [v] = some x) : ∃ n, v = .int .i64 n ∧ (Lit.int .i64 n).wf = true := by
  unfold Program.keyLits at h
  rw [Tryz.underlying3] at h
  cases v <;> simp at h
  obtain ⟨⟨rfl, hw⟩, _⟩ := h
  exact ⟨_, rfl, hw⟩
set_option maxRecDepth 1000000 in
theorem kl_u {d : Nat} {v : Value} {x : List Lit} (h : Tryz.prog.keyLits (d + 1) 36 [v] = some x) : ∃ n, v = .int .u64 n ∧ (Lit.int .u64 n).wf = true := by
  unfold Program.keyLits at h
  rw [Tryz.underlying36] at h
  cases v <;> simp at h
  obtain ⟨⟨rfl, hw⟩, _⟩ := h
  exact ⟨_, rfl, hw⟩
set_option maxRecDepth 1000000 in
theorem kl_s {d : Nat} {v : Value} {x : List Lit} (h : Tryz.prog.keyLits (d + 1) 9 [v] = some x) : ∃ s, v = .string s ∧ s.size ≤ maxLen := by
  unfold Program.keyLits at h
  rw [Tryz.underlying9] at h
  cases v <;> simp at h
  exact ⟨_, rfl, h.1⟩
set_option maxRecDepth 1000000 in
theorem keyInv {v : Value} {kl : Lit} (h : keyOf Tryz.prog 38 v = some kl) : ∃ x : Lk, v = lkv x ∧ Lkx x := by
  unfold keyOf at h
  rw [Tryz.underlying38] at h
  obtain ⟨d, hd⟩ := types_pos
  rw [hd] at h
  simp only at h
  by_cases hf : (Tryz.prog.keyType 38 && v.formed Tryz.prog 38) = true
  · rw [if_pos hf] at h
    rw [Bool.and_eq_true] at hf
    replace hf := hf.2
    cases v <;> simp [Value.formed, Tryz.underlying38, cellsL] at hf
    rename_i cs
    obtain ⟨l⟩ := cs
    rcases l with _ | ⟨a, _ | ⟨b, _ | ⟨c, _ | ⟨e, _ | ⟨x, l⟩⟩⟩⟩⟩ <;> simp at hf
    rw [Option.map_eq_some_iff] at h
    obtain ⟨ls, h, _⟩ := h
    unfold Program.keyLits at h
    simp only [Tryz.underlying38, Value.cells] at h
    rw [if_pos ⟨by rw [cellsL]; rfl, by simp⟩] at h
    simp only [List.mapM_cons, List.mapM_nil, c3x, cellsU, c9x, Option.map_eq_some_iff, Option.bind_eq_bind, Option.bind_eq_some_iff, Option.pure_def, List.drop_zero, List.take_succ_cons, List.take_zero, List.drop_succ_cons] at h
    obtain ⟨_, ⟨x1, h1, _, ⟨x2, h2, _, ⟨x3, h3, _, ⟨x4, h4, _⟩, _⟩, _⟩, _⟩, _⟩ := h
    obtain ⟨n1, rfl, w1⟩ := kl_i h1
    obtain ⟨n2, rfl, w2⟩ := kl_u h2
    obtain ⟨n3, rfl, w3⟩ := kl_u h3
    obtain ⟨s4, rfl, w4⟩ := kl_s h4
    rw [wf_i64] at w1
    rw [wf_u64] at w2 w3
    refine ⟨⟨n1, n2.toNat, n3.toNat, sl s4⟩, ?_, ⟨⟨?_, ?_, sl_byte s4, ?_⟩, w1⟩⟩
    · simp only [lkv]
      rw [nstr_sl, Int.toNat_of_nonneg w2.1, Int.toNat_of_nonneg w3.1]
    · show n2.toNat < _
      omega
    · show n3.toNat < _
      omega
    · show (sl s4).length ≤ _
      rw [sl_len]
      unfold maxLen at w4
      omega
  · rw [if_neg hf] at h
    cases h
theorem kll_inj {a b : Lk} (ha : Lkx a) (hb : Lkx b) (h : kll a = kll b) : a = b := by
  have h1 := lawK.inj (keyL ha) (h ▸ keyL hb)
  simp only [lkv, Value.agg.injEq, Array.mk.injEq, List.cons.injEq, Value.int.injEq, true_and, Value.string.injEq, and_true] at h1
  obtain ⟨h2, h3, h4, h5⟩ := h1
  exact lk_ext.2 ⟨h2, by omega, by omega, nstr_inj ha.d hb.d (by rw [h5])⟩
theorem kll_ne {a b : Lk} (ha : Lkx a) (hb : Lkx b) (h : a ≠ b) : kll a ≠ kll b := fun e => h (kll_inj ha hb e)
theorem kll_key (l : Lk) : WideAt.IsKeyLit (kll l) := trivial
def bdat (b : List Nat) : DataW Unit := .agg [.lit (.string (nstr b).data.toList)]
def bval (b : List Nat) : Value := .agg #[.string (nstr b)]
def blkElem : Value → Option (DataW Unit × List MemPlace)
  | .agg cs => match cs.toList with
    | [.string s] => if s.size ≤ 140737488351232 then some (.agg [.lit (.string s.data.toList)], []) else none
    | _ => none
  | _ => none
theorem blkElem_mk {b : List Nat} (hb : ∀ x ∈ b, x < 256) (hn : b.length ≤ 140737488351232) : blkElem (bval b) = some (bdat b, []) := by
  unfold blkElem bval bdat
  simp only
  rw [if_pos (by rw [nstr_size hb]; exact hn)]
theorem blkElem_inv {v : Value} {z : DataW Unit × List MemPlace} (h : blkElem v = some z) : ∃ b, v = bval b ∧ (∀ x ∈ b, x < 256) ∧ b.length ≤ 140737488351232 ∧ z = (bdat b, []) := by
  unfold blkElem at h
  split at h
  · rename_i cs
    split at h
    · rename_i s hs
      split at h
      · rename_i hz
        obtain ⟨l⟩ := cs
        simp only at hs
        subst hs
        refine ⟨sl s, by unfold bval; rw [nstr_sl], sl_byte s, by rw [sl_len]; exact hz, ?_⟩
        rw [← Option.some.inj h]
        unfold bdat
        rw [nstr_sl]
      · cases h
    · cases h
  · cases h
theorem bdat_inj {a b : List Nat} (ha : ∀ x ∈ a, x < 256) (hb : ∀ x ∈ b, x < 256) (h : bdat a = bdat b) : a = b := by
  unfold bdat at h
  have h1 := DataW.agg.inj h
  simp only [List.cons.injEq, and_true] at h1
  have h2 := Lit.string.inj (DataW.lit.inj h1)
  exact nstr_inj ha hb (by rw [ByteArray.toList_eq, ByteArray.toList_eq, h2])
theorem zeroB (w : World) : (zeroValue 74).run Tryz.prog w = .ok (bval []) w := by kernel_rfl
structure Bgd (p : Blk) : Prop where
  l : Lkx p.1
  b : ∀ x ∈ p.2, x < 256
  n : p.2.length ≤ 67108864
structure Mlb (w : World) (B : Nat) (L : List Blk) : Prop where
  nd : ndB L
  ok : ∀ p ∈ L, Bgd p
  ex : ∃ D : DataW Unit, w.ownsMap Tryz.prog 38 blkElem B L.length D ∧ Maps.size D = L.length ∧ (∀ l, Lkx l → Maps.has D (kll l) = (atB L l).isSome) ∧ ∀ l b, Lkx l → atB L l = some b → ∀ zd, D.atKey (kll l) zd = bdat b
theorem own_tight {w : World} {B n : Nat} {D : DataW Unit} (h : w.ownsMap Tryz.prog 38 blkElem B n D) : w.ownsMap Tryz.prog 38 blkElem B (Maps.size D) D := by
  obtain ⟨es, clock, h1, h2, h3, h4⟩ := h
  refine ⟨es, clock, h1, h2, ?_, h4⟩
  rw [h4]
  simp [Maps.size, length_sorted]
theorem Mlb.made (w : World) : Mlb (w.alloc (.map #[] 0)) w.heap.size [] := ⟨List.nodup_nil, fun _ h => (by cases h), ⟨.map [], World.ownsMap_made _ _ _ _, rfl, fun _ _ => rfl, fun _ _ _ h => by cases h⟩⟩
theorem Mlb.block {w w' : World} {B : Nat} {L : List Blk} (h : Mlb w B L) (hb : w'.heap[B]? = w.heap[B]?) : Mlb w' B L := by
  obtain ⟨h0, h00, D, ⟨es, clock, h1, h2⟩, h3⟩ := h
  exact ⟨h0, h00, ⟨D, ⟨es, clock, hb.trans h1, h2⟩, h3⟩⟩
theorem Mlb.lt {w : World} {B : Nat} {L : List Blk} (h : Mlb w B L) : B < w.heap.size := by
  obtain ⟨_, _, D, h1, _⟩ := h
  exact h1.lt
theorem Mlb.ne {w : World} {B g : Nat} {L : List Blk} {cs : Array Value} {t : TypeId} {z : Nat × Nat} (h : Mlb w B L) (hg : w.heap[g]? = some (.cells cs t z)) : g ≠ B := by
  obtain ⟨_, _, D, ⟨es, clock, h1, _⟩, _⟩ := h
  intro e
  rw [e, h1] at hg
  cases hg
theorem Mlb.next {w w' : World} {B : Nat} {L : List Blk} (h : Mlb w B L) (hb : Below w.heap.size w w') : Mlb w' B L := h.block (hb.block _ h.lt)
theorem Mlb.kp {w w' : World} {B : Nat} {L : List Blk} {S : Nat → Prop} (h : Mlb w B L) (hk : Kp S w w') (hs : ¬ S B) : Mlb w' B L := h.block (hk.block _ h.lt hs)
theorem Mlb.same {w : World} {B : Nat} {L M : List Blk} (h : Mlb w B L) (hM : ndB M) (hk : ∀ k, atB L k = atB M k) : Mlb w B M := by
  obtain ⟨h0, h00, D, h1, h2, h3, h4⟩ := h
  have hp := same_len h0 hM hk
  exact ⟨hM, fun p hp2 => h00 p (hp.mem_iff.2 hp2), ⟨D, hp.length_eq ▸ h1, hp.length_eq ▸ h2, fun l hl => by rw [← hk]; exact h3 l hl, fun l b hl hb => h4 l b hl (by rw [hk]; exact hb)⟩⟩
theorem Mlb.look {w : World} {B : Nat} {L : List Blk} (h : Mlb w B L) {l : Lk} (hl : Lkx l) : (Instr.lookup 46 (.map (some B)) (lkv l) true).run Tryz.prog w = .ok (.tuple #[bval ((atB L l).getD []), .bool (atB L l).isSome]) w := by
  obtain ⟨_, h00, D, h1, _, h3, h4⟩ := h
  obtain ⟨v, ps, hrun, hv⟩ := h1.look_ok lawK Tryz.underlying46 (zeroB w) (blkElem_mk (b := []) (by simp) (by simp)) (keyL hl)
  obtain ⟨b, rfl, hb, hn, hz⟩ := blkElem_inv hv
  have hat := congrArg Prod.fst hz
  simp only at hat
  rw [hrun, h3 l hl]
  cases hg : atB L l with
  | none =>
    have h5 := h3 l hl
    rw [hg] at h5
    rw [Maps.atKey_of_not_has h5] at hat
    rw [← bdat_inj (by simp) hb hat]
    rfl
  | some c =>
    rw [h4 l c hl hg] at hat
    rw [← bdat_inj (h00 _ (atB_mem hg)).b hb hat]
    rfl
theorem Mlb.len {w : World} {B : Nat} {L : List Blk} (h : Mlb w B L) (ty : TypeId) : (Builtin.len_ #[46] ty #[.map (some B)]).run Tryz.prog w = .ok (.int .i64 (L.length : Nat)) w := by
  obtain ⟨_, _, D, h1, h2, _⟩ := h
  rw [h1.len Tryz.underlying46 ty, h2]
theorem Mlb.put {w : World} {B : Nat} {L : List Blk} (h : Mlb w B L) {l : Lk} {b : List Nat} (hb : Bgd (l, b)) (hn : L.length < 140737488351232) :
    ∃ w', (Instr.mapUpdate 46 (.map (some B)) (lkv l) (bval b)).run Tryz.prog w = .ok () w' ∧ Mlb w' B (putB L l b) ∧ Kp (fun q => q = B) w w' ∧ w'.heap.size = w.heap.size := by
  obtain ⟨h0, h00, D, h1, h2, h3, h4⟩ := h
  have hl : Lkx l := hb.l
  obtain ⟨w', hrun, h5, h6⟩ := h1.store lawK Tryz.underlying46 (by unfold maxLen; omega) (keyL hl) (blkElem_mk hb.b (Nat.le_trans hb.n (by decide)))
  have h7 := h6.grown
  have hsz : Maps.size (D.put (kll l) (bdat b)) = (putB L l b).length := by
    rw [Maps.size_put (h1.tidy lawK), h3 l hl, h2]
    have := len_put h0 l b
    cases hh : (atB L l).isSome
    · rw [hh] at this
      simp only [Bool.false_eq_true, if_false] at this ⊢
      omega
    · rw [hh] at this
      simp only [if_true] at this ⊢
      omega
  refine ⟨w', hrun, ⟨ndB_put h0 l b, fun p hp => ?_, ⟨D.put (kll l) (bdat b), ?_, hsz, fun k hk => ?_, fun k c hk hc zd => ?_⟩⟩, ⟨h7.os, h7.tape, h7.output, h7.size, fun k hk hne => h7.block k hk (fun e => hne (by injection e))⟩, ?_⟩
  · rcases mem_put hp with rfl | hp
    · exact hb
    · exact h00 p hp
  · rw [← hsz]
    exact own_tight h5
  · rw [atB_put]
    by_cases hkl : k = l
    · subst hkl
      rw [if_pos rfl, Maps.has_put_same h1.isMap (kll_key k)]
      rfl
    · rw [if_neg hkl, Maps.has_put_other (kll_ne hk hl hkl)]
      exact h3 k hk
  · rw [atB_put] at hc
    by_cases hkl : k = l
    · subst hkl
      rw [if_pos rfl] at hc
      rw [← Option.some.inj hc]
      exact Maps.atKey_put_same h1.isMap (kll_key k) _ _
    · rw [if_neg hkl] at hc
      rw [Maps.atKey_put_other (kll_ne hk hl hkl)]
      exact h4 k c hk hc zd
  · obtain ⟨es, clock, es', clock', _, rfl⟩ := h6
    simp [ChangeMaps.setBlock]
end
section
open Go.RowKit Go
set_option maxRecDepth 1000000 in
set_option maxHeartbeats 1000000 in
theorem check_any (w : World) (l : Lk) (hl : Lkb l) : Calls Tryz.prog 26 #[lkv l] w fun e w' => e = .returned (.int .i64 (if lok l then 0 else 40)) ∧ Below w.heap.size w w' := by
  generalize hR : (if lok l then (0 : Int) else 40) = R
  have HR := hide hR
  clear hR
  have HL := hide hl
  have HLO : Hid (∀ x ∈ (⟨0, 112, 18, l.d⟩ : Lk).d, x < 256) := hl.d
  have HOL : Hid (lcs ⟨0, 112, 18, l.d⟩ = #[.int .i64 0, .int .u64 112, .int .u64 18, .string (nstr l.d)]) := rfl
  have HT : Hid ((w.alloc (.cells #[.int .i64 l.v, .int .u64 (l.c : Nat), .int .u64 (l.h : Nat), .string (nstr l.d)] 38)).heap[w.heap.size]? = some (.cells (lcs l) 38 (0, 0))) := heap_alloc_new w _
  have HBQ := hide (below_alloc4 w (.cells #[.int .i64 l.v, .int .u64 (l.c : Nat), .int .u64 (l.h : Nat), .string (nstr l.d)] 38))
  simp only [lkv]
  go_enter Tryz.func26, Tryz.ntmps26
  go_wp2_with fail
  generalize w.alloc (.cells #[.int .i64 l.v, .int .u64 (l.c : Nat), .int .u64 (l.h : Nat), .string (nstr l.d)] 38) = w0 at *
  go_cut [3] (fun c wx => c = .bool (decide (l = ⟨0, 112, 18, l.d⟩) && decide (okd l.h l.d)) ∧ Hid (Below w0.heap.size w0 wx))
  case first => as_aux_lemma =>
    have q3 : ∀ t : Ext w0, t.w'.cell? ⟨w.heap.size, 3, none⟩ = some (.string (nstr l.d)) := fun t => Ext.cell (blk_cell HT.out rfl) t
    have HQ : Hid (∀ wx, (∃ t : Ext w0, wx = t.w') → wx.heap[w.heap.size]? = some (.cells (lcs l) 38 (0, 0))) := by
      rintro _ ⟨t, rfl⟩
      exact (t.h.block _ (blk_lt HT.out)).trans HT.out
    have HCO : Hid (∀ t : Ext w0, Calls Tryz.prog 43 #[.string (nstr l.d)] t.w' fun e w'' => e = .returned (.agg (lcs ⟨0, 112, 18, l.d⟩)) ∧ ∃ t' : Ext w0, w'' = t'.w') := fun t => Calls.ext_below (old_any t.w' (nstr l.d))
    have HCF : Hid (∀ t : Ext w0, Calls Tryz.prog 44 #[.agg (lcs l)] t.w' fun e w'' => e = .returned (.bool (decide (okd l.h l.d))) ∧ ∃ t' : Ext w0, w'' = t'.w') := fun t => Calls.ext_below (fits4_any t.w' l HL.out)
    have HEQ : Hid (∀ wx, (∃ t : Ext w0, wx = t.w') → (Op.equalIn 10000 38 (.agg (lcs l)) (.agg (lcs ⟨0, 112, 18, l.d⟩))).run Tryz.prog wx = .ok (decide (l = ⟨0, 112, 18, l.d⟩)) wx) := fun wx _ => eqlk wx HL.out.d HLO.out
    generalize hbb : decide (l = ⟨0, 112, 18, l.d⟩) = bb at *
    generalize lcs ⟨0, 112, 18, l.d⟩ = ol at *
    have HCN : Hid ((lcs l).size = 4) := rfl
    generalize lcs l = cl at *
    clear hbb
    cases bb
    · refine region_ext (by kernel_rfl) (by kernel_rfl) ?_
      repeat (
        refine wpQuiet_step (fun K hK => ?_)
        first
          | (refine qstep_link rfl rfl w.heap.size cl rfl HCN.out HQ.out (hK _ ?_); clear hK K)
          | (refine qstep_eqlk rfl rfl cl ol false rfl rfl HEQ.out (hK _ ?_); clear hK K)
          | (go_simp
             first
               | (refine hK _ ?_; clear hK K)
               | (apply Exists.intro
                  refine ⟨fun _ => ?_, hK _ ?_⟩
                  (first
                    | (go_at_call 43; exact HCO.out _)
                    | (go_at_call 44; exact HCF.out _))
                  clear hK K)))
      refine wpQuiet_nil ?_
      rintro _ ⟨tq, rfl⟩
      go_wp2_with fail
      go_meet
      case rel => exact ⟨rfl, tq.h⟩
    · refine region_ext (by kernel_rfl) (by kernel_rfl) ?_
      repeat (
        refine wpQuiet_step (fun K hK => ?_)
        first
          | (refine qstep_link rfl rfl w.heap.size cl rfl HCN.out HQ.out (hK _ ?_); clear hK K)
          | (refine qstep_eqlk rfl rfl cl ol true rfl rfl HEQ.out (hK _ ?_); clear hK K)
          | (go_simp
             first
               | (refine hK _ ?_; clear hK K)
               | (apply Exists.intro
                  refine ⟨fun _ => ?_, hK _ ?_⟩
                  (first
                    | (go_at_call 43; exact HCO.out _)
                    | (go_at_call 44; exact HCF.out _))
                  clear hK K)))
      refine wpQuiet_nil ?_
      rintro _ ⟨tq, rfl⟩
      go_wp2_with fail
      go_meet
      case rel => exact ⟨rfl, tq.h⟩
  case rest => as_aux_lemma =>
    obtain ⟨rfl, hb1⟩ := hcut
    have HT1 : Hid (wc.heap[w.heap.size]? = some (.cells (lcs l) 38 (0, 0))) := (hb1.out.block _ (blk_lt HT.out)).trans HT.out
    have HB1 : Hid (Below w.heap.size w wc) := HBQ.out.trans (hb1.out.mono HBQ.out.size)
    have HK : Hid (lok l ↔ (l = ⟨0, 112, 18, l.d⟩ ∧ okd l.h l.d) ∨ (l.v = 1 ∧ l.c < 9223372036854775808 ∧ okd l.h l.d)) := by
      show _ ↔ _
      unfold lok
      rw [lk_ext]
      constructor
      · rintro (⟨h1, h2, h3, h4⟩ | h)
        · exact .inl ⟨⟨h1, h2, h3, rfl⟩, .inl ⟨h3, h4⟩⟩
        · exact .inr h
      · rintro (⟨⟨h1, h2, h3, _⟩, h | h⟩ | h)
        · exact .inl ⟨h1, h2, h3, h.2⟩
        · simp only at h1 h2 h3
          omega
        · exact .inr h
    clear hb1 HT HBQ HOL HLO
    by_cases hc1 : l = ⟨0, 112, 18, l.d⟩ ∧ okd l.h l.d
    · as_aux_lemma =>
      have e1 : (decide (l = ⟨0, 112, 18, l.d⟩) && decide (okd l.h l.d)) = true := by rw [decide_eq_true hc1.1, decide_eq_true hc1.2]; rfl
      have HZ : Hid (R = 0) := by show _ = _; rw [← HR.out, if_pos (HK.out.2 (.inl hc1))]
      rw [e1]
      clear e1 hc1 HR HK
      go_wp2_with fail
      go_ret
      exact ⟨by rw [HZ.out]; rfl, HB1.out⟩
    · have e1 : (decide (l = ⟨0, 112, 18, l.d⟩) && decide (okd l.h l.d)) = false := by
        rw [Bool.and_eq_false_iff, decide_eq_false_iff_not, decide_eq_false_iff_not]
        exact Decidable.not_and_iff_or_not.1 hc1
      rw [e1]
      have HE : Hid (lok l ↔ (l.v = 1 ∧ l.c < 9223372036854775808 ∧ okd l.h l.d)) := HK.out.trans ⟨fun h => h.resolve_left hc1, .inr⟩
      have q0 : wc.cell? ⟨w.heap.size, 0, none⟩ = some (.int .i64 l.v) := blk_cell HT1.out rfl
      have q1 : wc.cell? ⟨w.heap.size, 1, none⟩ = some (.int .u64 (l.c : Nat)) := blk_cell HT1.out rfl
      have q2 : wc.cell? ⟨w.heap.size, 2, none⟩ = some (.int .u64 (l.h : Nat)) := blk_cell HT1.out rfl
      have q3 : wc.cell? ⟨w.heap.size, 3, none⟩ = some (.string (nstr l.d)) := blk_cell HT1.out rfl
      have HF := hide (fits4_any wc l HL.out)
      simp only [lkv] at HF
      have HCL := hide HL.out.c
      clear e1 hc1 HK HL hl HT1
      generalize nstr l.d = S at *
      obtain ⟨v, c, h, d⟩ := l
      simp only at *
      by_cases hv : v = 1
      · subst hv
        generalize hn : (c : Int) = n at *
        have HN := hide hn
        clear hn
        by_cases hc63 : n < 9223372036854775808
        · as_aux_lemma =>
          have HZ : Hid (R = if okd h d then 0 else 40) := by
            show _ = _
            rw [← HR.out]
            have := HN.out
            by_cases hk : okd h d
            · rw [if_pos hk, if_pos (HE.out.2 ⟨rfl, by omega, hk⟩)]
            · rw [if_neg hk, if_neg (fun e => hk (HE.out.1 e).2.2)]
          clear HE HR HN
          go_wp2_with fail
          refine HF.out.mono ?_
          rintro e w2 ⟨rfl, hb2⟩
          have HB2 : Hid (Below w.heap.size w w2) := HB1.out.trans (hb2.mono HB1.out.size)
          clear hb2 HF
          by_cases hk : okd h d
          · rw [decide_eq_true hk]
            rw [if_pos hk] at HZ
            go_wp2_with fail
            go_ret
            exact ⟨by rw [HZ.out]; rfl, HB2.out⟩
          · rw [decide_eq_false hk]
            rw [if_neg hk] at HZ
            go_wp2_with fail
            go_ret
            exact ⟨by rw [HZ.out]; rfl, HB2.out⟩
        · as_aux_lemma =>
          have g2' : (9223372036854775808 : Int) ≤ n := by omega
          have HZ : Hid (R = 40) := by show _ = _; rw [← HR.out, if_neg (fun e => hc63 (by have := (HE.out.1 e).2.1; have := HN.out; omega))]
          clear HE HR HN hc63
          go_wp2_with fail
          go_ret
          exact ⟨by rw [HZ.out]; rfl, HB1.out⟩
      · as_aux_lemma =>
        have g1 : (v == 1) = false := beq_eq_false_iff_ne.2 hv
        have HZ : Hid (R = 40) := by show _ = _; rw [← HR.out, if_neg (fun e => hv (HE.out.1 e).1)]
        clear HE HR hv
        go_wp2_with fail
        go_ret
        exact ⟨by rw [HZ.out]; rfl, HB1.out⟩
end
section
open Go.RowKit Go
theorem end_c2 {fn : Func} {p q : Tmp} {T : TypeId} {fs : Array Field} {wx : World} {R : Nat} {cs : Array Value} {x : Value} {tmps : Array Value} (hf : fn.results = #[.cell p T, .tmp q]) (hu : Tryz.prog.underlying T = some (.struct fs)) {n : Nat} (hi : (Tryz.prog.info? T).map (·.size) = some n) (hn : cs.size = n)
    (hr : wx.heap[R]? = some (.cells cs T (0, 0))) (hp : tmps.getD p undef = .pointer (some ⟨R, 0, none⟩)) (hx : tmps.getD q undef = x) : (results fn tmps).run Tryz.prog wx = .ok (.tuple #[.agg cs, x]) wx := by
  refine (results_cell_tmp hf _ _ _).trans ?_
  rw [hp, hx]
  have h1 := run_loadVar_row (P := Tryz.prog) wx R T T cs (0, 0) _ hr hu rfl (by rw [hn]; exact hi)
  simp [asAddr, h1, Result.andThen]
theorem wpList_storeLk {ops : Array Oper} {rest : List Oper} {o : Oper} {a : Act} {Q : Exit → Act → World → Prop} {w : World} {p x : Operand} (hgd : o.guard = none) (ho : o.op = .store 38 p x) (g : Nat) (old : Array Value) (l : Lk)
    (hp : a.eval p = .pointer (some ⟨g, 0, none⟩)) (hx : a.eval x = .agg (lcs l)) (hn : old.size = 4) (hg : w.heap[g]? = some (.cells old 38 (0, 0))) (h : wpList Tryz.prog ops Q rest (a.put o.dst undef) (w.setRow g (lcs l))) : wpList Tryz.prog ops Q (o :: rest) a w :=
  wpList_storeRow hgd ho g old (lcs l) 38 hp hx hg info61 (by rw [hn]; rfl) (by kernel_rfl) h
end
section
open Go.RowKit Go
section
variable {P : Program} {Q : Exit → Act → World → Prop} {S : World → Prop} {l : List Oper} {fuel : Nat} {listed : Array Bool} {a : Act} {w : World}
theorem heldStart {id : Nat} (hm : P.follows .mixedOrders = true) (h : wpAnyH P .any l.toArray Q S l.length (Array.replicate l.length false) a w.drew) : (Code.region id l.toArray true).wp P Q a w :=
  wp_region_held (S := S) hm (by simpa using h)
theorem heldTake (i : Nat) {oi : Oper} (v : Value) (hi : l[i]? = some oi) (hs : Region.noSelect l.toArray = true) (hf : Region.free .any l.toArray listed i = true) (hr : (Region.ready .any l.toArray listed).contains i = true)
    (hQ : ∀ c a w, Q (.panic c) (a.put oi.dst v) w → Q (.panic c) a w) (hw : Region.wanted oi (yielded l.toArray a.tmps) = true) (hS : S w) (hy : ∀ w, S w → (execOp a.eval oi).run P w = .ok (.value v) w)
    (h : wpAnyH P .any l.toArray Q S fuel (listed.setIfInBounds i true) (a.put oi.dst v) w) : wpAnyH P .any l.toArray Q S (fuel + 1) listed a w :=
  wpAnyH_take (by simpa using hi) hs hf hr hQ (.inl ⟨hw, hy⟩) hS h
theorem heldStep (i : Nat) {oi : Oper} (hi : l[i]? = some oi) (hr : Region.ready .any l.toArray listed = [i])
    (h : ∀ K : Act → World → Prop, Hid (∀ a w, S w → (S w → wpAnyH P .any l.toArray Q S fuel (listed.setIfInBounds i true) a w) → K a w) → if Region.wanted oi (yielded l.toArray a.tmps) = true then Oper.wp P oi a w K Q else K (a.put oi.dst undef) w) : wpAnyH P .any l.toArray Q S (fuel + 1) listed a w :=
  wpAnyH_ready hr (by simp) (AllReadyH.cons (by simpa using hi) (fun K hK => h K hK) AllReadyH.nil)
theorem heldDone (hr : Region.ready .any l.toArray listed = []) (h : Q .normal a w) : wpAnyH P .any l.toArray Q S fuel listed a w := wpAnyH_done hr h fuel
end
end
section
open Go.RowKit Go
def stc (r : Nat) (k : Int) (B : Nat) (z : Int) : Array Value := #[.int .i64 (r : Nat), .int .i32 k, .int .u32 0, .map (some B), .int .i64 z]
structure Sto (w : World) (g B r : Nat) (L : List Blk) : Prop where
  c : w.heap[g]? = some (.cells (stc r 0 B (szB L)) 59 (0, 0))
  m : Mlb w B L
  h : 1 ≤ r ∧ r ≤ 65536
  n : L.length ≤ r
set_option maxRecDepth 1000000 in
theorem new13_any (w : World) (r : Nat) (h : 1 ≤ r ∧ r ≤ 65536) : Calls Tryz.prog 5 #[.int .i64 (r : Nat)] w fun e w' => e = .returned (.tuple #[.pointer (some ⟨w.heap.size + 1, 0, none⟩), .int .i64 0]) ∧ Hid (Sto w' (w.heap.size + 1) w.heap.size r [] ∧ Below w.heap.size w w') := by
  have HS := hide h
  have g1 : ¬ ((r : Int) < 1) := by omega
  have g2 : ¬ ((65536 : Int) < r) := by omega
  have hmm := @run_makeMap Tryz.prog
  clear h
  go_enter Tryz.func5, Tryz.ntmps5
  go_wp2_with fail
  have hsz : (w.alloc (.map #[] 0)).heap.size = w.heap.size + 1 := by simp
  have hA := heap_alloc_new (w.alloc (.map #[] 0)) (.cells (stc r 0 w.heap.size (szB [])) 59)
  rw [hsz] at hA
  have hb := (below_alloc4 w (.map #[] 0)).trans ((below_alloc4 (w.alloc (.map #[] 0)) (.cells (stc r 0 w.heap.size (szB [])) 59)).mono (by rw [hsz]; omega))
  have hM := (Mlb.made w).next (below_alloc4 (w.alloc (.map #[] 0)) (.cells (stc r 0 w.heap.size (szB [])) 59))
  go_ret2
  exact ⟨rfl, ⟨hA, hM, HS.out, Nat.zero_le _⟩, hb⟩
set_option maxRecDepth 1000000 in
set_option maxHeartbeats 1000000 in
theorem holds13_any (w : World) (l : Lk) (hl : Lkb l) (vb : Value) (b : List Nat) (hcb : Cb w) (hb : BSl w vb b) (hbl : b.length ≤ 140737488351232) : Calls Tryz.prog 19 #[lkv l, vb] w fun e w' => e = .returned (.bool (dholds l.h l.d b)) ∧ Below w.heap.size w w' := by
  have HB := hide hb
  have HBL := hide hbl
  have HL := hide hl
  have HCB := hide hcb
  obtain ⟨⟨a, cap, rfl, hn, hc⟩, hmax, hby⟩ := hb
  have HT : Hid ((w.alloc (.cells #[.int .i64 l.v, .int .u64 (l.c : Nat), .int .u64 (l.h : Nat), .string (nstr l.d)] 38)).heap[w.heap.size]? = some (.cells (lcs l) 38 (0, 0))) := heap_alloc_new w _
  have HB0 := hide (below_alloc4 w (.cells #[.int .i64 l.v, .int .u64 (l.c : Nat), .int .u64 (l.h : Nat), .string (nstr l.d)] 38))
  clear hn hc hby hbl hcb hl
  simp only [lkv]
  go_enter Tryz.func19, Tryz.ntmps19
  go_upto_region 1 with fail
  generalize w.alloc (.cells #[.int .i64 l.v, .int .u64 (l.c : Nat), .int .u64 (l.h : Nat), .string (nstr l.d)] 38) = w1 at *
  have c2 : w1.cell? ⟨w.heap.size, 2, none⟩ = some (.int .u64 (l.h : Nat)) := blk_cell HT.out rfl
  have c3 : w1.cell? ⟨w.heap.size, 3, none⟩ = some (.string (nstr l.d)) := blk_cell HT.out rfl
  have cv := conv_sb w1 (nstr l.d)
  go_wp2_with fail
  clear cv c2 c3
  have HS1 : Hid (BSl (Lib.bytesWorld w1 5 (nstr l.d)) (.slice (some ⟨w1.heap.size, 0, none⟩) (nstr l.d).size (grownCap w1 (nstr l.d).size 0 5)) l.d) := by
    have h := conv_sb_bsl w1 (nstr l.d) (by rw [HL.out.size]; have := HL.out.n; omega)
    rw [sl_nstr HL.out.d] at h
    exact h
  have HB2 : Hid (Below w.heap.size w (Lib.bytesWorld w1 5 (nstr l.d))) := HB0.out.trans ((conv_sb_below w1 _).mono HB0.out.size)
  generalize grownCap w1 (nstr l.d).size 0 5 = G at *
  generalize w1.heap.size = gg at *
  generalize Lib.bytesWorld w1 5 (nstr l.d) = w2 at *
  refine (holds3_any w2 l.h _ _ l.d b (HCB.out.below HB2.out) HL.out.h HS1.out (HB.out.move (keep_below HB2.out)) HBL.out).mono ?_
  rintro e w3 ⟨rfl, hb3⟩
  have HB3 : Hid (Below w.heap.size w w3) := HB2.out.trans (hb3.mono HB2.out.size)
  clear hb3
  go_wp2_with fail
  go_ret
  exact ⟨rfl, HB3.out⟩
set_option maxRecDepth 1000000 in
theorem fits13_any (w : World) (l : Lk) (hl : Lkb l) (vb : Value) (b : List Nat) (hb : BSl w vb b) : Calls Tryz.prog 53 #[lkv l, vb] w fun e w' => e = .returned (.int .i64 (if lok l ∧ l.h = 18 then if 67108864 < b.length then 133 else 0 else 132)) ∧ Below w.heap.size w w' := by
  generalize hR : (if lok l ∧ l.h = 18 then if 67108864 < b.length then (133 : Int) else 0 else 132) = R
  have HR := hide hR
  have HL := hide hl
  obtain ⟨⟨a, cap, rfl, hn, hc⟩, hmax, hby⟩ := hb
  have HT : Hid ((w.alloc (.cells #[.int .i64 l.v, .int .u64 (l.c : Nat), .int .u64 (l.h : Nat), .string (nstr l.d)] 38)).heap[w.heap.size]? = some (.cells (lcs l) 38 (0, 0))) := heap_alloc_new w _
  have HB0 := hide (below_alloc4 w (.cells #[.int .i64 l.v, .int .u64 (l.c : Nat), .int .u64 (l.h : Nat), .string (nstr l.d)] 38))
  clear hn hc hby hR hl
  simp only [lkv]
  go_enter Tryz.func53, Tryz.ntmps53
  go_wp2_with fail
  generalize w.alloc (.cells #[.int .i64 l.v, .int .u64 (l.c : Nat), .int .u64 (l.h : Nat), .string (nstr l.d)] 38) = w0 at *
  refine (check_any w0 l HL.out).mono ?_
  rintro e w1 ⟨rfl, hb1⟩
  have q0 : w1.heap[w.heap.size]? = some (.cells (lcs l) 38 (0, 0)) := (hb1.block _ (blk_lt HT.out)).trans HT.out
  have HB1 : Hid (Below w.heap.size w w1) := HB0.out.trans (hb1.mono HB0.out.size)
  have c2 : w1.cell? ⟨w.heap.size, 2, none⟩ = some (.int .u64 (l.h : Nat)) := blk_cell q0 rfl
  clear hb1 q0
  by_cases hl : lok l
  · rw [if_pos hl]
    by_cases hh : l.h = 18
    · have HZ : Hid (R = if 67108864 < b.length then 133 else 0) := by show _ = _; rw [← HR.out, if_pos ⟨hl, hh⟩]
      rw [hh] at c2
      clear hl hh HR HT HL
      by_cases hb : 67108864 < b.length
      · have g3 : (67108864 : Int) < b.length := by omega
        have HQ : Hid (R = 133) := by show _ = _; rw [HZ.out, if_pos hb]
        clear hb HZ
        go_wp2_with fail
        go_ret
        exact ⟨by rw [HQ.out]; rfl, HB1.out⟩
      · have g3 : ¬ (67108864 : Int) < b.length := by omega
        have HQ : Hid (R = 0) := by show _ = _; rw [HZ.out, if_neg hb]
        clear hb HZ
        go_wp2_with fail
        go_ret
        exact ⟨by rw [HQ.out]; rfl, HB1.out⟩
    · have HZ : Hid (R = 132) := by show _ = _; rw [← HR.out, if_neg (fun e => hh e.2)]
      have g4 : (((l.h : Nat) : Int) != 18) = true := by rw [bne_iff_ne]; omega
      clear hl hh HR HT HL
      go_wp2_with fail
      go_ret
      exact ⟨by rw [HZ.out]; rfl, HB1.out⟩
  · rw [if_neg hl]
    have HZ : Hid (R = 132) := by show _ = _; rw [← HR.out, if_neg (fun e => hl e.1)]
    clear hl HR HT HL
    go_wp2_with fail
    go_ret
    exact ⟨by rw [HZ.out]; rfl, HB1.out⟩
end
section
open Go.RowKit Go
section
variable {ops : Array Oper} {rest : List Oper} {o : Oper} {a : Act} {Q : Exit → Act → World → Prop} {w : World}
theorem wpList_lookB (hgd : Region.wanted o (yielded ops a.tmps) = true) {m x : Operand} (ho : o.op = .lookup 46 m x true) {B : Nat} {L : List Blk} {l : Lk} (hm : a.eval m = .map (some B)) (hx : a.eval x = lkv l) (h : Mlb w B L) (hl : Lkx l)
    (hK : wpList Tryz.prog ops Q rest (a.put o.dst (.tuple #[.agg #[.string (nstr ((atB L l).getD []))], .bool (atB L l).isSome])) w) : wpList Tryz.prog ops Q (o :: rest) a w := by
  refine wpList_wanted hgd fun K hK' => ?_
  have hr := h.look hl
  unfold bval at hr
  unfold Oper.wp
  simp [execOp, ho, hm, hx, hr, Result.andThen]
  exact hK' _ _ hK
theorem wpList_putB (hgd : Region.wanted o (yielded ops a.tmps) = true) {m x v : Operand} (ho : o.op = .mapUpdate 46 m x v) {B : Nat} {L : List Blk} {l : Lk} {b : List Nat} (hm : a.eval m = .map (some B)) (hx : a.eval x = lkv l) (hv : a.eval v = bval b) (h : Mlb w B L) (hb : Bgd (l, b)) (hn : L.length < 140737488351232)
    (hK : ∀ w', Mlb w' B (putB L l b) → Kp (fun q => q = B) w w' → w'.heap.size = w.heap.size → wpList Tryz.prog ops Q rest (a.put o.dst undef) w') : wpList Tryz.prog ops Q (o :: rest) a w := by
  refine wpList_wanted hgd fun K hK' => ?_
  obtain ⟨w', hrun, h1, h2, h3⟩ := h.put hb hn
  unfold Oper.wp
  simp [execOp, ho, hm, hx, hv, hrun, Result.andThen]
  exact hK' _ _ (hK w' h1 h2 h3)
theorem wpList_lenB (hgd : Region.wanted o (yielded ops a.tmps) = true) {m : Operand} (ho : o.op = .call { callee := .builtin Builtin.len, args := #[m], argTypes := #[46] }) {B : Nat} {L : List Blk} (hm : a.eval m = .map (some B)) (h : Mlb w B L)
    (hK : wpList Tryz.prog ops Q rest (a.put o.dst (.int .i64 (L.length : Nat))) w) : wpList Tryz.prog ops Q (o :: rest) a w := by
  refine wpList_wanted hgd fun K hK' => ?_
  unfold Oper.wp
  simp [execOp, ho, resolve, invoke, builtin, hm, h.len o.type, Result.andThen]
  exact hK' _ _ hK
end
structure Cpw (w : World) (Bd Bs : Nat) (L d : List Blk) (D : DataW Unit) (wr : World) (left : Lit → Bool) (cnt : Nat) (z : List Blk) : Prop where
  rg : wr.ranges Tryz.prog 38 blkElem Bs w.heap.size d.length D left cnt
  m : Mlb wr Bd (mrg L z)
  k : Kp (fun q => q = Bd) w wr
  n : z.length + cnt ≤ d.length
  nd : ndB z
  l : ∀ l, Lkx l → left (kll l) = ((atB d l).isSome && (atB z l).isNone)
  s : ∀ l b, atB z l = some b → atB d l = some b
theorem len_mrg (L : List Blk) : ∀ z : List Blk, (mrg L z).length ≤ L.length + z.length
  | [] => Nat.le_refl _
  | x :: z => by
    have := len_mrg L z
    have h2 : (delB (mrg L z) x.1).length ≤ (mrg L z).length := List.length_filter_le _ _
    rw [mrg_cons]
    simp only [putB, List.length_cons]
    omega
theorem sameKey_kll {a b : Lk} (ha : Lkx a) (hb : Lkx b) : (kll a).sameKey (kll b) = decide (a = b) := by
  by_cases h : a = b
  · subst h
    rw [WideAt.sameKey_self (kll_key a)]
    simp
  · rw [Maps.sameKey_ne (kll_ne ha hb h)]
    simp [h]
theorem Cpw.step {w wr w2 : World} {Bd Bs : Nat} {L d : List Blk} {D : DataW Unit} {left : Lit → Bool} {cnt cnt' : Nat} {z : List Blk} (h : Cpw w Bd Bs L d D wr left cnt z) {x : Lk} {b : List Nat} (hx : Lkx x) (hl : left (kll x) = true) (hd : atB d x = some b)
    (hr : w2.ranges Tryz.prog 38 blkElem Bs w.heap.size d.length D (fun y => left y && !y.sameKey (kll x)) cnt') (hc : cnt' < cnt) (hm : Mlb w2 Bd (putB (mrg L z) x b)) (hk : Kp (fun q => q = Bd) w w2) :
    Cpw w Bd Bs L d D w2 (fun y => left y && !y.sameKey (kll x)) cnt' ((x, b) :: z) := by
  have h1 := h.l x hx
  rw [hl] at h1
  have h2 := h1.symm
  rw [Bool.and_eq_true] at h2
  have hz : atB z x = none := by simpa using h2.2
  refine ⟨hr, hm, hk, ?_, ndB_cons h.nd hz, fun l hl2 => ?_, fun l c hc2 => ?_⟩
  · have := h.n
    simp only [List.length_cons]
    omega
  · rw [h.l l hl2, sameKey_kll hl2 hx, atB_cons]
    by_cases e : x = l
    · rw [if_pos e]
      simp [e]
    · rw [if_neg e]
      have e2 : ¬ l = x := fun q => e q.symm
      simp [e2]
  · rw [atB_cons] at hc2
    by_cases e : x = l
    · rw [if_pos e] at hc2
      rw [← e, ← Option.some.inj hc2]
      exact hd
    · rw [if_neg e] at hc2
      exact h.s l c hc2
theorem Cpw.done {w wr : World} {Bd Bs : Nat} {L d : List Blk} {D : DataW Unit} {left : Lit → Bool} {cnt : Nat} {z : List Blk} (h : Cpw w Bd Bs L d D wr left cnt z) (hL : ndB L) (hd : ∀ p ∈ d, Bgd p) (hl : ∀ kl, left kl = false) : Mlb wr Bd (mrg L d) := by
  refine h.m.same (ndB_mrg hL d) (fun k => ?_)
  rw [atB_mrg, atB_mrg]
  have hk : atB z k = atB d k := by
    cases hz : atB z k with
    | some b => exact (h.s k b hz).symm
    | none =>
      cases hq : atB d k with
      | none => rfl
      | some b =>
        have hx : Lkx k := (hd _ (atB_mem hq)).l
        have := h.l k hx
        rw [hl, hq, hz] at this
        simp at this
  rw [hk]
set_option maxRecDepth 1000000 in
set_option maxHeartbeats 1000000 in
theorem copy13_any (w : World) (Bd Bs : Nat) (L d : List Blk) (hm : Mlb w Bd L) (hs : Mlb w Bs d) (hne : Bd ≠ Bs) (hn : L.length + d.length < 140737488351232) :
    Calls Tryz.prog 35 #[.map (some Bd), .map (some Bs)] w fun e w' => e = .returned (.tuple #[]) ∧ Hid (Mlb w' Bd (mrg L d) ∧ Kp (fun q => q = Bd) w w') := by
  obtain ⟨hs0, hs1, D, hown, hsz, hs3, hs4⟩ := hs
  have HM := hide hm
  have HO := hide hown
  have HSZ := hide hsz
  have H3 := hide hs3
  have H4 := hide hs4
  have HN := hide hn
  have HNE := hide hne
  have HD := hide hs1
  clear hm hown hsz hs3 hs4 hn hne hs1 hs0
  go_enter Tryz.func35, Tryz.ntmps35
  go_wp2_with (first
    | (at_range; refine wpList_range_own _ rfl _ 46 rfl 38 74 lawK Tryz.underlying46 _ Bs d.length _ rfl HO.out ?_; intro w0 hrg0 hg0 hs0)
    | go_in)
  go_frame
  have HC0 : Hid (Cpw w Bd Bs L d D w0 (Maps.has D) (Maps.size D) []) := ⟨hrg0, HM.out.block (hg0.block _ HM.out.lt (by simp)), ⟨hg0.os, hg0.tape, hg0.output, hg0.size, fun k hk _ => hg0.block k hk (by simp)⟩, by rw [HSZ.out]; exact Nat.le_of_eq (Nat.zero_add _), List.nodup_nil, fun l hl => by rw [H3.out l hl]; simp [atB], fun _ _ h => by cases h⟩
  clear hrg0 hg0 hs0
  go_loopw [8] (fun _ wr => ∃ (left : Lit → Bool) (cnt : Nat) (z : List Blk), Hid (Cpw w Bd Bs L d D wr left cnt z)) (fun _ wr => wr.rangeLeft Bs w.heap.size)
  case atStart => exact ⟨_, _, _, HC0⟩
  case round =>
    obtain ⟨left, cnt, z, HC⟩ := hrel
    go_wp2_with (first
      | (at_next; refine wpList_next_ranges (α := {x : Lk // Lkx x}) (β := {b : List Nat // (∀ x ∈ b, x < 256) ∧ b.length ≤ 140737488351232}) _ rfl _ rfl 38 lawK blkElem (fun x => lkv x.1) (fun b => bval b.1) (fun key kl hk => by obtain ⟨x, hx, hx2⟩ := keyInv hk; exact ⟨⟨x, hx2⟩, hx⟩) (fun v y hv => by obtain ⟨b, hb, h1, h2, _⟩ := blkElem_inv hv; exact ⟨⟨b, h1, h2⟩, hb⟩) Bs w.heap.size d.length D left cnt rfl HC.out.rg ?_ ?_)
      | go_in)
    · intro hc0 hl0
      have HE : Hid (Mlb wr Bd (mrg L d) ∧ Kp (fun q => q = Bd) w wr) := ⟨HC.out.done HM.out.nd HD.out hl0, HC.out.k⟩
      go_wp2
      go_end0
      exact ⟨rfl, HE⟩
    · intro x hx b hb1 hb2 kl y1 y2 w1 cnt1 hkl hlx hy hat hrg1 hlt hg1 hs1 hen
      obtain rfl := Option.some.inj ((keyL hx).symm.trans hkl)
      have hdx : atB d x = some b := by
        have h1 := HC.out.l x hx
        rw [hlx] at h1
        have h2 := h1.symm
        rw [Bool.and_eq_true] at h2
        obtain ⟨b2, hb⟩ := Option.isSome_iff_exists.1 h2.1
        have h3 := H4.out x b2 hx hb (bdat b2)
        rw [hat] at h3
        rw [blkElem_mk hb1 hb2] at hy
        have h4 := congrArg Prod.fst (Option.some.inj hy)
        simp only at h4
        have h5 : b2 = b := bdat_inj (HD.out _ (atB_mem hb)).b hb1 (h3.symm.trans h4.symm)
        rw [hb, h5]
      have hkw : Kp (fun q => q = Bd) w w1 := HC.out.k.grown hg1 (fun k hk e => by have e2 := Option.some.inj e; omega)
      have hM1 : Mlb w1 Bd (mrg L z) := HC.out.m.block (hg1.block _ HC.out.m.lt (fun e => by have e2 := Option.some.inj e; have := HM.out.lt; omega))
      have HLT := hide hlt
      have HLX := hide hlx
      have HX := hide hx
      have HDX := hide hdx
      have HKW := hide hkw
      have HM1 := hide hM1
      have HR1 := hide hrg1
      clear hkl hlx hy hat hrg1 hlt hg1 hs1 hdx hkw hM1 hb1 hb2
      simp only [lkv, bval] at hen ⊢
      have HA : Hid (Below w1.heap.size w1 ((w1.alloc (.cells #[.int .i64 x.v, .int .u64 (x.c : Nat), .int .u64 (x.h : Nat), .string (nstr x.d)] 38)).alloc (.cells #[.string (nstr b)] 74))) := (below_alloc4 w1 _).trans ((below_alloc4 _ _).mono (by simp))
      have HT : Hid (((w1.alloc (.cells #[.int .i64 x.v, .int .u64 (x.c : Nat), .int .u64 (x.h : Nat), .string (nstr x.d)] 38)).alloc (.cells #[.string (nstr b)] 74)).heap[w1.heap.size]? = some (.cells (lcs x) 38 (0, 0))) := blk_alloc _ (heap_alloc_new w1 _)
      have HT2 : Hid (((w1.alloc (.cells #[.int .i64 x.v, .int .u64 (x.c : Nat), .int .u64 (x.h : Nat), .string (nstr x.d)] 38)).alloc (.cells #[.string (nstr b)] 74)).heap[w1.heap.size + 1]? = some (.cells #[.string (nstr b)] 74 (0, 0))) := by
        have h := heap_alloc_new (w1.alloc (.cells #[.int .i64 x.v, .int .u64 (x.c : Nat), .int .u64 (x.h : Nat), .string (nstr x.d)] 38)) (.cells #[.string (nstr b)] 74)
        rw [show (w1.alloc (.cells #[.int .i64 x.v, .int .u64 (x.c : Nat), .int .u64 (x.h : Nat), .string (nstr x.d)] 38)).heap.size = w1.heap.size + 1 by simp] at h
        exact h
      go_upto_region 3 with fail
      generalize (w1.alloc (.cells #[.int .i64 x.v, .int .u64 (x.c : Nat), .int .u64 (x.h : Nat), .string (nstr x.d)] 38)).alloc (.cells #[.string (nstr b)] 74) = w2 at *
      have HM2 : Hid (Mlb w2 Bd (mrg L z)) := HM1.out.next HA.out
      have HR2 : Hid (w2.ranges Tryz.prog 38 blkElem Bs w.heap.size d.length D (fun z => left z && !z.sameKey (kll x)) cnt1) := HR1.out.kept (row := none) ⟨HA.out.os, HA.out.tape, HA.out.output, HA.out.size, fun k hk _ => HA.out.block k hk⟩ (by simp) (by simp)
      have HK2 : Hid (Kp (fun q => q = Bd) w w2) := HKW.out.trans (Kp.of_below (S := fun _ => False) HA.out) (fun _ _ h => h.elim)
      have HG : Hid (Bgd (x, b)) := HD.out _ (atB_mem HDX.out)
      have HLE : Hid ((mrg L z).length < 140737488351232) := by
        have h1 := len_mrg L z
        have h2 := HC.out.n
        have h3 := HN.out
        show _ < _
        omega
      have c0 : w2.cell? ⟨w1.heap.size, 0, none⟩ = some (.int .i64 x.v) := blk_cell (j := 0) HT.out rfl
      have c1 : w2.cell? ⟨w1.heap.size, 1, none⟩ = some (.int .u64 (x.c : Nat)) := blk_cell (j := 1) HT.out rfl
      have c2 : w2.cell? ⟨w1.heap.size, 2, none⟩ = some (.int .u64 (x.h : Nat)) := blk_cell (j := 2) HT.out rfl
      have c3 : w2.cell? ⟨w1.heap.size, 3, none⟩ = some (.string (nstr x.d)) := blk_cell (j := 3) HT.out rfl
      have c4 : w2.cell? ⟨w1.heap.size + 1, 0, none⟩ = some (.string (nstr b)) := blk_cell (j := 0) HT2.out rfl
      clear hen hx HM1 HR1 HA HT HT2
      go_wp2_with (first
        | (at_mapUpdate; refine wpList_putB (B := Bd) (L := mrg L z) (l := x) (b := b) rfl rfl rfl rfl rfl HM2.out HG.out HLE.out ?_; intro w3 hM3 hK3 hz3; go_frame)
        | go_in)
      have hrg2 := HR2.out.kept (w' := w3) (row := some Bd) ⟨hK3.os, hK3.tape, hK3.output, hK3.size, fun k hk hne => hK3.block k hk (fun e => hne (by rw [e]))⟩ (fun e => HNE.out (Option.some.inj e).symm) (fun e => by have e2 := Option.some.inj e; have := HM.out.lt; omega)
      have HC3 : Hid (Cpw w Bd Bs L d D w3 (fun z => left z && !z.sameKey (kll x)) cnt1 ((x, b) :: z)) := HC.out.step HX.out HLX.out HDX.out hrg2 HLT.out hM3 (HK2.out.trans hK3 (fun _ _ h => h))
      go_roundw
      case rel => exact ⟨_, _, _, HC3⟩
      case measure => rw [hrg2.left_eq, HC.out.rg.left_eq]; exact HLT.out
end
section
open Go.RowKit Go
def bcs (x : Blk) (vb : Value) : Array Value := #[.int .i64 x.1.v, .int .u64 (x.1.c : Nat), .int .u64 (x.1.h : Nat), .string (nstr x.1.d), vb]
structure Bki (w : World) (x : Blk) (c : Array Value) : Prop where
  ex : ∃ vb, c = bcs x vb ∧ BSl w vb x.2
  l : Lkx x.1
  n : x.2.length ≤ 140737488351232
abbrev KSl (w : World) (v : Value) (L : List Blk) : Prop := GSl 5 Bki w v L
theorem infoBq : (Tryz.prog.info? 43).map (·.size) = some 5 := by kernel_rfl
theorem aggBq (w : World) : (isAgg 43).run Tryz.prog w = .ok true w := by
  unfold isAgg
  rw [Sem.run_bind, run_underlying Tryz.underlying43 w]
  simp
theorem KSl.at {w : World} {a : Option Addr} {cap : Nat} {L : List Blk} (h : KSl w (.slice a L.length cap) L) {i : Nat} {x : Blk} (hx : L[i]? = some x) : ∃ b off va n vc, a = some ⟨b, off, none⟩ ∧ BSl w (.slice va n vc) x.2 ∧ n = x.2.length ∧ Lkx x.1 ∧ x.2.length ≤ 140737488351232 ∧ ∀ j u, (bcs x (.slice va n vc))[j]? = some u → w.cell? ⟨b, off + i * 5 + j, none⟩ = some u := by
  obtain ⟨⟨a', cap', he, hn, hc⟩, _⟩ := h
  injection he with e1 e2 e3
  subst e1
  rcases hc with hc | ⟨b, off, rfl, hc⟩
  · rw [hc] at hx
    simp at hx
  · obtain ⟨c, ⟨⟨vb, rfl, hb⟩, h2, h3⟩, h4⟩ := hc i x hx
    have hb2 := hb
    obtain ⟨⟨va, vc, rfl, _⟩, _⟩ := hb2
    exact ⟨b, off, va, _, vc, rfl, hb, rfl, h2, h3, h4⟩
def fit13 (x : Blk) : Nat := if lok x.1 ∧ x.1.h = 18 then if 67108864 < x.2.length then 133 else 0 else 132
def frt : List Blk → Nat × Nat
  | [] => (0, 0)
  | x :: r => if fit13 x = 0 then if dholds x.1.h x.1.d x.2 = true then ((frt r).1 + 1, (frt r).2) else (0, 137) else (0, fit13 x)
theorem fit13_cast (x : Blk) : (if lok x.1 ∧ x.1.h = 18 then if 67108864 < x.2.length then (133 : Int) else 0 else 132) = (fit13 x : Nat) := by
  unfold fit13
  split
  · split <;> rfl
  · rfl
theorem fit13_le (x : Blk) : fit13 x ≤ 133 := by
  unfold fit13
  split
  · split <;> omega
  · omega
theorem drop_cons13 {L : List Blk} {i : Nat} {x : Blk} (h : L[i]? = some x) : L.drop i = x :: L.drop (i + 1) := by
  obtain ⟨hi, e⟩ := List.getElem?_eq_some_iff.1 h
  rw [List.drop_eq_getElem_cons hi, e]
set_option maxRecDepth 1000000 in
set_option maxHeartbeats 1000000 in
theorem front13_any (w : World) (v : Value) (L : List Blk) (hv : KSl w v L) (hcb : Cb w) : Calls Tryz.prog 32 #[v, .func (.func 19) #[] #[]] w fun e w' => e = .returned (.tuple #[.int .i64 ((frt L).1 : Nat), .int .i64 ((frt L).2 : Nat)]) ∧ Below w.heap.size w w' := by
  have hmax := hv.max
  have hv2 := hv
  obtain ⟨⟨a, cap, rfl, -, -⟩, -⟩ := hv2
  have HV := hide hv
  have HCB := hide hcb
  have HI5 := hide infoBq
  have HAB : Hid (∀ w, (isAgg 43).run Tryz.prog w = .ok true w) := aggBq
  have hnot : ∀ (x : Bool) (w : World), (Op.unary .not (.bool x)).run Tryz.prog w = .ok (.bool (!x)) w := fun _ _ => rfl
  clear hv hcb
  go_enter Tryz.func32, Tryz.ntmps32
  go_wp2_with fail
  go_loopw [11] (fun vi wx => ∃ i : Nat, i ≤ L.length ∧ vi = .int .i64 (i : Nat) ∧ Hid (Below w.heap.size w wx ∧ frt L = ((frt (L.drop i)).1 + i, (frt (L.drop i)).2))) (fun vi _ => L.length - (intOf vi).toNat)
  case atStart => exact ⟨0, by omega, rfl, Below.refl _ _, rfl⟩
  case round =>
    obtain ⟨i, hi, rfl, HR⟩ := hrel
    by_cases hlt : i < L.length
    · have g1 : (i : Int) < (L.length : Int) := by omega
      obtain ⟨x, hx⟩ : ∃ x, L[i]? = some x := ⟨_, List.getElem?_eq_getElem hlt⟩
      obtain ⟨b, off, va, n, vc, rfl, hb, hnl, hl, hb2, hcell⟩ := HV.out.at hx
      have HN := hide hnl
      have HL := hide hl
      have HBS := hide hb
      have HB2 := hide hb2
      have HD := hide (drop_cons13 hx)
      have HCL : Hid (∀ j u, (#[.int .i64 x.1.v, .int .u64 (x.1.c : Nat), .int .u64 (x.1.h : Nat), .string (nstr x.1.d), .slice va n vc] : Array Value)[j]? = some u → wr.cell? ⟨b, off + i * 5 + j, none⟩ = some u) := fun j u hj => keep_below HR.out.1 _ _ (hcell j u hj)
      have HB1 := hide (below_alloc4 wr (.cells #[.int .i64 x.1.v, .int .u64 (x.1.c : Nat), .int .u64 (x.1.h : Nat), .string (nstr x.1.d), .slice va n vc] 43))
      have HT : Hid ((wr.alloc (.cells #[.int .i64 x.1.v, .int .u64 (x.1.c : Nat), .int .u64 (x.1.h : Nat), .string (nstr x.1.d), .slice va n vc] 43)).heap[wr.heap.size]? = some (.cells (bcs x (.slice va n vc)) 43 (0, 0))) := heap_alloc_new wr _
      clear hx hnl hl hb hb2 hcell
      go_upto_region 4 with (refine wpList_aggAt rfl rfl HI5.out HAB.out b (off + i * 5) #[.int .i64 x.1.v, .int .u64 (x.1.c : Nat), .int .u64 (x.1.h : Nat), .string (nstr x.1.d), .slice va n vc] rfl rfl HCL.out ?_)
      generalize wr.alloc (.cells #[.int .i64 x.1.v, .int .u64 (x.1.c : Nat), .int .u64 (x.1.h : Nat), .string (nstr x.1.d), .slice va n vc] 43) = w1 at *
      have HBw : Hid (Below w.heap.size w w1) := HR.out.1.trans (HB1.out.mono HR.out.1.size)
      have c0 : w1.cell? ⟨wr.heap.size, 0, none⟩ = some (.int .i64 x.1.v) := blk_cell (j := 0) HT.out rfl
      have c1 : w1.cell? ⟨wr.heap.size, 1, none⟩ = some (.int .u64 (x.1.c : Nat)) := blk_cell (j := 1) HT.out rfl
      have c2 : w1.cell? ⟨wr.heap.size, 2, none⟩ = some (.int .u64 (x.1.h : Nat)) := blk_cell (j := 2) HT.out rfl
      have c3 : w1.cell? ⟨wr.heap.size, 3, none⟩ = some (.string (nstr x.1.d)) := blk_cell (j := 3) HT.out rfl
      have c4 : w1.cell? ⟨wr.heap.size, 4, none⟩ = some (.slice va n vc) := blk_cell (j := 4) HT.out rfl
      have HF := hide (fits13_any w1 x.1 HL.out.toLkb (.slice va n vc) x.2 (HBS.out.move (keep_below HBw.out)))
      rw [fit13_cast] at HF
      simp only [lkv] at HF
      clear HCL HB1
      by_cases hf : fit13 x = 0
      · have g2 : (((fit13 x : Nat) : Int) != 0) = false := by rw [hf]; rfl
        have HZ := hide hf
        clear hf
        go_upto_region 7 with (go_at_call 53; refine HF.out.mono ?_; rintro e w2 ⟨rfl, hb2⟩)
        have HB2w : Hid (Below w.heap.size w w2) := HBw.out.trans (hb2.mono HBw.out.size)
        have HT2 : Hid (w2.heap[wr.heap.size]? = some (.cells (bcs x (.slice va n vc)) 43 (0, 0))) := (hb2.block _ (blk_lt HT.out)).trans HT.out
        have d0 : w2.cell? ⟨wr.heap.size, 0, none⟩ = some (.int .i64 x.1.v) := blk_cell (j := 0) HT2.out rfl
        have d1 : w2.cell? ⟨wr.heap.size, 1, none⟩ = some (.int .u64 (x.1.c : Nat)) := blk_cell (j := 1) HT2.out rfl
        have d2 : w2.cell? ⟨wr.heap.size, 2, none⟩ = some (.int .u64 (x.1.h : Nat)) := blk_cell (j := 2) HT2.out rfl
        have d3 : w2.cell? ⟨wr.heap.size, 3, none⟩ = some (.string (nstr x.1.d)) := blk_cell (j := 3) HT2.out rfl
        have d4 : w2.cell? ⟨wr.heap.size, 4, none⟩ = some (.slice va n vc) := blk_cell (j := 4) HT2.out rfl
        have HH := hide (holds13_any w2 x.1 HL.out.toLkb (.slice va n vc) x.2 (HCB.out.below HB2w.out) (HBS.out.move (keep_below HB2w.out)) HB2.out)
        simp only [lkv] at HH
        clear c0 c1 c2 c3 c4 hb2 HF HT HBS HT2
        cases hh : dholds x.1.h x.1.d x.2
        · have HE : Hid (frt L = (i, 137)) := by
            show _ = _
            rw [HR.out.2, HD.out, frt, if_pos HZ.out, hh]
            simp
          rw [hh] at HH
          clear hh
          go_wp2_with (go_at_call 19; refine HH.out.mono ?_; rintro e w3 ⟨rfl, hb3⟩)
          go_ret2
          exact ⟨by rw [HE.out]; rfl, HB2w.out.trans (hb3.mono HB2w.out.size)⟩
        · have HE : Hid (frt L = ((frt (L.drop (i + 1))).1 + (i + 1), (frt (L.drop (i + 1))).2)) := by
            show _ = _
            rw [HR.out.2, HD.out, frt, if_pos HZ.out, hh]
            simp
            omega
          rw [hh] at HH
          clear hh
          go_wp2_with (go_at_call 19; refine HH.out.mono ?_; rintro e w3 ⟨rfl, hb3⟩)
          have HB3w : Hid (Below w.heap.size w w3) := HB2w.out.trans (hb3.mono HB2w.out.size)
          go_roundw
          case rel => exact ⟨i + 1, by omega, by go_num, HB3w.out, HE.out⟩
          case measure => simp [intOf]; omega
      · have g2 : (((fit13 x : Nat) : Int) != 0) = true := by rw [bne_iff_ne]; omega
        have HE : Hid (frt L = (i, fit13 x)) := by
          show _ = _
          rw [HR.out.2, HD.out, frt, if_neg hf]
          simp
        clear hf
        go_wp2_with (go_at_call 53; refine HF.out.mono ?_; rintro e w2 ⟨rfl, hb2⟩)
        go_ret2
        exact ⟨by rw [HE.out]; rfl, HBw.out.trans (hb2.mono HBw.out.size)⟩
    · have g1 : ¬ (i : Int) < (L.length : Int) := by omega
      have HE : Hid (frt L = (L.length, 0)) := by
        have h := HR.out.2
        rw [List.drop_eq_nil_of_le (by omega)] at h
        rw [show i = L.length by omega] at h
        show _ = _
        rw [h]
        simp [frt]
      go_wp2_with fail
      go_ret2
      exact ⟨by rw [HE.out]; rfl, HR.out.1⟩
end
section
open Go.RowKit Go
def DrQ (e : Ending) (w w' : World) : Option Dr → Prop
  | none => e = .returned (.tuple #[.agg #[.map none, .int .i64 0, .int .i64 0], .bool true])
  | some s => ∃ Bd, w.heap.size ≤ Bd ∧ e = .returned (.tuple #[.agg #[.map (some Bd), .int .i64 (s.f : Nat), .int .i64 s.g], .bool false]) ∧ Mlb w' Bd s.d
def DrP (w : World) (L X : List Blk) (e : Ending) (w' : World) : Prop := Below w.heap.size w w' ∧ DrQ e w w' (drf L X ⟨[], 0, 0⟩)
theorem DrP.no {w w' : World} {L X : List Blk} (hb : Below w.heap.size w w') (h : drf L X ⟨[], 0, 0⟩ = none) : DrP w L X (.returned (.tuple #[.agg #[.map none, .int .i64 0, .int .i64 0], .bool true])) w' := ⟨hb, by rw [h]; rfl⟩
theorem DrP.yes {w w' : World} {L X : List Blk} (hb : Below w.heap.size w w') {s : Dr} (h : drf L X ⟨[], 0, 0⟩ = some s) (hm : Mlb w' (w.heap.size + 1) s.d) : DrP w L X (.returned (.tuple #[.agg #[.map (some (w.heap.size + 1)), .int .i64 (s.f : Nat), .int .i64 s.g], .bool false])) w' := ⟨hb, by rw [h]; exact ⟨_, Nat.le_succ _, rfl, hm⟩⟩
def dzc : Array Value := #[.map none, .int .i64 0, .int .i64 0]
def dfc (M : Nat) (s : Dr) : Array Value := #[.map (some M), .int .i64 (s.f : Nat), .int .i64 s.g]
structure Dfw (w : World) (L X : List Blk) (wx : World) (i : Nat) (s : Dr) : Prop where
  b : Below w.heap.size w wx
  r : wx.heap[w.heap.size]? = some (.cells dzc 82 (0, 0))
  d : wx.heap[w.heap.size + 2]? = some (.cells (dfc (w.heap.size + 1) s) 82 (0, 0))
  m : Mlb wx (w.heap.size + 1) s.d
  f : drf L X ⟨[], 0, 0⟩ = drf L (X.drop i) s
  n : s.d.length ≤ i
  p : s.f ≤ i
  g : -(i * 67108864 : Int) ≤ s.g ∧ s.g ≤ i * 67108864
theorem Dfw.next {w wx wy : World} {L X : List Blk} {i : Nat} {s : Dr} (h : Dfw w L X wx i s) (hb : Below wx.heap.size wx wy) : Dfw w L X wy i s :=
  ⟨h.b.trans (hb.mono h.b.size), (hb.block _ (blk_lt h.r)).trans h.r, (hb.block _ (blk_lt h.d)).trans h.d, h.m.next hb, h.f, h.n, h.p, h.g⟩
theorem Dfw.skip {w wx : World} {L X : List Blk} {i : Nat} {s : Dr} (h : Dfw w L X wx i s) (hf : drf L X ⟨[], 0, 0⟩ = drf L (X.drop (i + 1)) s) : Dfw w L X wx (i + 1) s :=
  ⟨h.b, h.r, h.d, h.m, hf, Nat.le_succ_of_le h.n, Nat.le_succ_of_le h.p, by have := h.g; omega⟩
theorem drf_same {L r : List Blk} {s : Dr} {x : Blk} {b : List Nat} (h : atB s.d x.1 = some b) (hb : b = x.2) : drf L (x :: r) s = drf L r s := by
  rw [drf, h]
  simp [hb]
theorem drf_unlike {L r : List Blk} {s : Dr} {x : Blk} {b : List Nat} (h : atB s.d x.1 = some b) (hb : b ≠ x.2) : drf L (x :: r) s = none := by
  rw [drf, h]
  simp [hb]
theorem drf_new {L r : List Blk} {s : Dr} {x : Blk} (h : atB s.d x.1 = none) (h2 : atB L x.1 = none) : drf L (x :: r) s = drf L r ⟨x :: s.d, s.f + 1, s.g + x.2.length⟩ := by
  rw [drf, h, h2]
theorem drf_stands {L r : List Blk} {s : Dr} {x : Blk} {b : List Nat} (h : atB s.d x.1 = none) (h2 : atB L x.1 = some b) (hb : b = x.2) : drf L (x :: r) s = drf L r s := by
  rw [drf, h, h2]
  simp [hb]
theorem drf_clash {L r : List Blk} {s : Dr} {x : Blk} {b : List Nat} (h : atB s.d x.1 = none) (h2 : atB L x.1 = some b) (hb : b ≠ x.2) (hd : dholds x.1.h x.1.d b = true) : drf L (x :: r) s = none := by
  rw [drf, h, h2]
  simp [hb, hd]
theorem drf_over {L r : List Blk} {s : Dr} {x : Blk} {b : List Nat} (h : atB s.d x.1 = none) (h2 : atB L x.1 = some b) (hb : b ≠ x.2) (hd : dholds x.1.h x.1.d b = false) : drf L (x :: r) s = drf L r ⟨x :: s.d, s.f, s.g + (x.2.length - b.length)⟩ := by
  rw [drf, h, h2]
  simp [hb, hd]
theorem at_some13 {A : Option (List Nat)} {q : List Nat} (h : A.getD [] = q) (hf : A.isSome = true) : A = some q := by
  obtain ⟨b, rfl⟩ := Option.isSome_iff_exists.1 hf
  rw [← h]
  rfl
theorem qb_of {A : Option (List Nat)} {q : List Nat} (h : A.getD [] = q) (hb : ∀ b, A = some b → ∀ y ∈ b, y < 256) : ∀ y ∈ q, y < 256 := by
  cases A with
  | none => rw [← h]; simp
  | some b => rw [← h]; exact hb b rfl
theorem ql_of {A : Option (List Nat)} {q : List Nat} (h : A.getD [] = q) (hb : ∀ b, A = some b → b.length ≤ 67108864) : q.length ≤ 67108864 := by
  cases A with
  | none => rw [← h]; simp
  | some b => rw [← h]; exact hb b rfl
theorem at_none13 {A : Option (List Nat)} (hf : A.isSome = false) : A = none := by
  cases A with
  | none => rfl
  | some _ => cases hf
structure Dfy (w : World) (wx : World) (s : Dr) (x : Blk) (vb : Value) (p qp : Nat) (q : List Nat) (f : Nat) : Prop where
  b : Below w.heap.size w wx
  r : wx.heap[w.heap.size]? = some (.cells dzc 82 (0, 0))
  d : wx.heap[w.heap.size + 2]? = some (.cells #[.map (some (w.heap.size + 1)), .int .i64 (f : Nat), .int .i64 s.g] 82 (0, 0))
  m : Mlb wx (w.heap.size + 1) s.d
  xb : wx.heap[p]? = some (.cells (bcs x vb) 43 (0, 0))
  qb : wx.heap[qp]? = some (.cells #[.string (nstr q)] 74 (0, 0))
theorem Dfy.next {w wx w5 : World} {s : Dr} {x : Blk} {vb : Value} {p qp : Nat} {q : List Nat} {f : Nat} (h : Dfy w wx s x vb p qp q f) (hb : Below wx.heap.size wx w5) : Dfy w w5 s x vb p qp q f :=
  ⟨h.b.trans (hb.mono h.b.size), (hb.block _ (blk_lt h.r)).trans h.r, (hb.block _ (blk_lt h.d)).trans h.d, h.m.next hb, (hb.block _ (blk_lt h.xb)).trans h.xb, (hb.block _ (blk_lt h.qb)).trans h.qb⟩
theorem ne_of_type {w : World} {a b : Nat} {c c' : Array Value} {t t' : TypeId} (h : w.heap[a]? = some (.cells c t (0, 0))) (h' : w.heap[b]? = some (.cells c' t' (0, 0))) (hne : t ≠ t') : a ≠ b := fun e => by
  rw [e, h'] at h
  injection h with h
  injection h with _ h
  exact hne h.symm
theorem Dfy.fresh {w wx : World} {s : Dr} {x : Blk} {vb : Value} {p qp : Nat} {q : List Nat} {f : Nat} (h : Dfy w wx s x vb p qp q f) : Dfy w (wx.setCell ⟨w.heap.size + 2, 1, none⟩ (.int .i64 ((f + 1 : Nat) : Int))) s x vb p qp q (f + 1) :=
  have hk : Kp (fun q => q = w.heap.size + 2) wx (wx.setCell ⟨w.heap.size + 2, 1, none⟩ (.int .i64 ((f + 1 : Nat) : Int))) := (Kp.refl _ wx).setCell _ _ (fun _ => rfl)
  ⟨h.b.trans (hk.below h.b.size (fun _ e => by omega)), (hk.block _ (blk_lt h.r) (by omega)).trans h.r, blk_set 1 _ h.d, h.m.kp hk (by omega), (hk.block _ (blk_lt h.xb) (ne_of_type h.xb h.d (by decide))).trans h.xb, (hk.block _ (blk_lt h.qb) (ne_of_type h.qb h.d (by decide))).trans h.qb⟩
theorem Dfy.put {w wx w5 : World} {s : Dr} {x : Blk} {vb : Value} {p qp : Nat} {q : List Nat} {f : Nat} (h : Dfy w wx s x vb p qp q f) (hk : Kp (fun y => y = w.heap.size + 1) wx w5) {t : Dr} (ht : Mlb w5 (w.heap.size + 1) t.d) (hg : t.g = s.g) : Dfy w w5 t x vb p qp q f :=
  ⟨h.b.trans (hk.below h.b.size (fun _ e => by omega)), (hk.block _ (blk_lt h.r) (by omega)).trans h.r, by rw [hg]; exact (hk.block _ (blk_lt h.d) (by omega)).trans h.d, ht, (hk.block _ (blk_lt h.xb) (h.m.ne h.xb)).trans h.xb, (hk.block _ (blk_lt h.qb) (h.m.ne h.qb)).trans h.qb⟩
theorem infoDr : (Tryz.prog.info? 82).map (·.size) = some 3 := by kernel_rfl
theorem wpList_zeroD {ops : Array Oper} {rest : List Oper} {o : Oper} {a : Act} {Q : Exit → Act → World → Prop} {w : World} {p x : Operand} (hgd : o.guard = none) (ho : o.op = .store 82 p x) (g : Nat)
    (hp : a.eval p = .pointer (some ⟨g, 0, none⟩)) (hx : a.eval x = .agg dzc) (hg : w.heap[g]? = some (.cells dzc 82 (0, 0))) (h : wpList Tryz.prog ops Q rest (a.put o.dst undef) w) : wpList Tryz.prog ops Q (o :: rest) a w := by
  refine wpList_storeRow hgd ho g dzc dzc 82 hp hx hg infoDr rfl (by kernel_rfl) ?_
  rw [setRow_self w g dzc 82 (0, 0) hg]
  exact h
theorem wpList_lookQ {ops : Array Oper} {rest : List Oper} {o : Oper} {a : Act} {Q : Exit → Act → World → Prop} {w : World} (hgd : Region.wanted o (yielded ops a.tmps) = true) {m x : Operand} (ho : o.op = .lookup 46 m x true) {B : Nat} {L : List Blk} {l : Lk} (hm : a.eval m = .map (some B)) (hx : a.eval x = lkv l) (h : Mlb w B L) (hl : Lkx l) (q : List Nat) (f : Bool) (hq : (atB L l).getD [] = q) (hf : (atB L l).isSome = f)
    (hK : wpList Tryz.prog ops Q rest (a.put o.dst (.tuple #[.agg #[.string (nstr q)], .bool f])) w) : wpList Tryz.prog ops Q (o :: rest) a w := by
  refine wpList_lookB hgd ho hm hx h hl ?_
  rw [hq, hf]
  exact hK
theorem bneS {a b : List Nat} (ha : ∀ x ∈ a, x < 256) (hb : ∀ x ∈ b, x < 256) : ((nstr a).toList == (nstr b).toList) = decide (a = b) := by
  by_cases h : a = b
  · subst h
    simp
  · rw [decide_eq_false h, beq_eq_false_iff_ne]
    exact fun e => h (nstr_inj ha hb e)
set_option maxRecDepth 1000000 in
set_option maxHeartbeats 2000000 in
theorem drafted13_any (w : World) (g B r : Nat) (k z : Int) (L : List Blk) (hg : w.heap[g]? = some (.cells (stc r k B z) 59 (0, 0))) (hM : Mlb w B L) (v : Value) (X : List Blk) (hv : KSl w v X) (hX : ∀ x ∈ X, x.2.length ≤ 67108864) (hn : X.length ≤ 1048576) (hcb : Cb w) :
    Calls Tryz.prog 34 #[.pointer (some ⟨g, 0, none⟩), v, .func (.func 19) #[] #[]] w (DrP w L X) := by
  have hv2 := hv
  obtain ⟨⟨a, cap, rfl, -, -⟩, -⟩ := hv2
  have HV := hide hv
  have HG := hide hg
  have HM := hide hM
  have HX := hide hX
  have HCB := hide hcb
  have HI5 := hide infoBq
  have HAB : Hid (∀ w, (isAgg 43).run Tryz.prog w = .ok true w) := aggBq
  have hnot : ∀ (x : Bool) (w : World), (Op.unary .not (.bool x)).run Tryz.prog w = .ok (.bool (!x)) w := fun _ _ => rfl
  have hmm := @run_makeMap Tryz.prog
  clear hv hcb hg hM hX
  go_enter Tryz.func34, Tryz.ntmps34
  go_upto_region 2 with fail
  rw [show w.heap.size + 1 + 1 = w.heap.size + 2 from rfl]
  have HD0 : Hid (Dfw w L X (((w.alloc (.cells #[.map none, .int .i64 0, .int .i64 0] 82)).alloc (.map #[] 0)).alloc (.cells #[.map (some (w.heap.size + 1)), .int .i64 0, .int .i64 0] 82)) 0 ⟨[], 0, 0⟩) := by
    have e1 : (w.alloc (.cells #[.map none, .int .i64 0, .int .i64 0] 82)).heap.size = w.heap.size + 1 := by simp
    have e2 : ((w.alloc (.cells #[.map none, .int .i64 0, .int .i64 0] 82)).alloc (.map #[] 0)).heap.size = w.heap.size + 2 := by simp
    have b1 := below_alloc4 w (.cells #[.map none, .int .i64 0, .int .i64 0] 82)
    have b2 := below_alloc4 (w.alloc (.cells #[.map none, .int .i64 0, .int .i64 0] 82)) (.map #[] 0)
    have b3 := below_alloc4 ((w.alloc (.cells #[.map none, .int .i64 0, .int .i64 0] 82)).alloc (.map #[] 0)) (.cells #[.map (some (w.heap.size + 1)), .int .i64 0, .int .i64 0] 82)
    have h3 := heap_alloc_new ((w.alloc (.cells #[.map none, .int .i64 0, .int .i64 0] 82)).alloc (.map #[] 0)) (.cells #[.map (some (w.heap.size + 1)), .int .i64 0, .int .i64 0] 82)
    rw [e2] at h3
    have hm := Mlb.made (w.alloc (.cells #[.map none, .int .i64 0, .int .i64 0] 82))
    rw [e1] at hm
    exact ⟨(b1.trans (b2.mono (by rw [e1]; omega))).trans (b3.mono (by rw [e2]; omega)), blk_alloc _ (blk_alloc _ (heap_alloc_new w _)), h3, hm.next b3, rfl, Nat.le_refl _, Nat.le_refl _, by simp⟩
  generalize ((w.alloc (.cells #[.map none, .int .i64 0, .int .i64 0] 82)).alloc (.map #[] 0)).alloc (.cells #[.map (some (w.heap.size + 1)), .int .i64 0, .int .i64 0] 82) = w0 at *
  clear hmm
  go_wp2_with fail
  go_loopw [19] (fun vi wx => ∃ (i : Nat) (s : Dr), i ≤ X.length ∧ vi = .int .i64 (i : Nat) ∧ Hid (Dfw w L X wx i s)) (fun vi _ => X.length - (intOf vi).toNat)
  case atStart => exact ⟨0, _, by omega, rfl, HD0⟩
  case round =>
    clear HD0
    obtain ⟨i, s, hi, rfl, HR⟩ := hrel
    by_cases hlt : i < X.length
    · have g1 : (i : Int) < (X.length : Int) := by omega
      obtain ⟨x, hx⟩ : ∃ x, X[i]? = some x := ⟨_, List.getElem?_eq_getElem hlt⟩
      obtain ⟨b, off, va, n, vc, rfl, hb, hnl, hl, hb2, hcell⟩ := HV.out.at hx
      have HN := hide hnl
      have HL := hide hl
      have HBS := hide hb
      have HBY := hide hb.byte
      have HX6 := hide (HX.out x (List.mem_of_getElem? hx))
      have HDC := hide (drop_cons13 hx)
      have HCL : Hid (∀ j u, (#[.int .i64 x.1.v, .int .u64 (x.1.c : Nat), .int .u64 (x.1.h : Nat), .string (nstr x.1.d), .slice va n vc] : Array Value)[j]? = some u → wr.cell? ⟨b, off + i * 5 + j, none⟩ = some u) := fun j u hj => keep_below HR.out.b _ _ (hcell j u hj)
      have HB1 := hide (below_alloc4 wr (.cells #[.int .i64 x.1.v, .int .u64 (x.1.c : Nat), .int .u64 (x.1.h : Nat), .string (nstr x.1.d), .slice va n vc] 43))
      have HT : Hid ((wr.alloc (.cells #[.int .i64 x.1.v, .int .u64 (x.1.c : Nat), .int .u64 (x.1.h : Nat), .string (nstr x.1.d), .slice va n vc] 43)).heap[wr.heap.size]? = some (.cells (bcs x (.slice va n vc)) 43 (0, 0))) := heap_alloc_new wr _
      have HSZ : Hid ((wr.alloc (.cells #[.int .i64 x.1.v, .int .u64 (x.1.c : Nat), .int .u64 (x.1.h : Nat), .string (nstr x.1.d), .slice va n vc] 43)).heap.size = wr.heap.size + 1) := by show _ = _; simp
      clear hx hnl hl hb hb2 hcell
      go_upto_region 5 with (refine wpList_aggAt rfl rfl HI5.out HAB.out b (off + i * 5) #[.int .i64 x.1.v, .int .u64 (x.1.c : Nat), .int .u64 (x.1.h : Nat), .string (nstr x.1.d), .slice va n vc] rfl rfl HCL.out ?_)
      generalize wr.alloc (.cells #[.int .i64 x.1.v, .int .u64 (x.1.c : Nat), .int .u64 (x.1.h : Nat), .string (nstr x.1.d), .slice va n vc] 43) = w1 at *
      have HW1 := hide (HR.out.next HB1.out)
      have c0 : w1.cell? ⟨wr.heap.size, 0, none⟩ = some (.int .i64 x.1.v) := blk_cell (j := 0) HT.out rfl
      have c1 : w1.cell? ⟨wr.heap.size, 1, none⟩ = some (.int .u64 (x.1.c : Nat)) := blk_cell (j := 1) HT.out rfl
      have c2 : w1.cell? ⟨wr.heap.size, 2, none⟩ = some (.int .u64 (x.1.h : Nat)) := blk_cell (j := 2) HT.out rfl
      have c3 : w1.cell? ⟨wr.heap.size, 3, none⟩ = some (.string (nstr x.1.d)) := blk_cell (j := 3) HT.out rfl
      have q0 : w1.cell? ⟨w.heap.size + 2, 0, none⟩ = some (.map (some (w.heap.size + 1))) := blk_cell (j := 0) HW1.out.d rfl
      clear HCL HB1 HR
      obtain ⟨q, hq⟩ : ∃ q, (atB s.d x.1).getD [] = q := ⟨_, rfl⟩
      obtain ⟨f, hf⟩ : ∃ f, (atB s.d x.1).isSome = f := ⟨_, rfl⟩
      have HQ := hide hq
      have HF := hide hf
      have HB2 := hide (below_alloc4 w1 (.cells #[.string (nstr q)] 74))
      have HA2 : Hid ((w1.alloc (.cells #[.string (nstr q)] 74)).heap[w1.heap.size]? = some (.cells #[.string (nstr q)] 74 (0, 0))) := heap_alloc_new w1 _
      clear hq hf
      go_upto_region 6 with (at_lookup; refine wpList_lookQ rfl rfl rfl rfl HW1.out.m HL.out q f HQ.out HF.out ?_)
      generalize w1.alloc (.cells #[.string (nstr q)] 74) = w2 at *
      have HW2 := hide (HW1.out.next HB2.out)
      have HT2 : Hid (w2.heap[wr.heap.size]? = some (.cells (bcs x (.slice va n vc)) 43 (0, 0))) := (HB2.out.block _ (blk_lt HT.out)).trans HT.out
      have d0 : w2.cell? ⟨w1.heap.size, 0, none⟩ = some (.string (nstr q)) := blk_cell (j := 0) HA2.out rfl
      have d4 : w2.cell? ⟨wr.heap.size, 4, none⟩ = some (.slice va n vc) := blk_cell (j := 4) HT2.out rfl
      have cv2 := (HBS.out.move (keep_below HW2.out.b)).text
      clear c0 c1 c2 c3 q0 HT HB2 HA2
      cases f
      · have HA : Hid (atB s.d x.1 = none) := at_none13 HF.out
        obtain ⟨q2, hq2⟩ : ∃ q, (atB L x.1).getD [] = q := ⟨_, rfl⟩
        obtain ⟨f2, hf2⟩ : ∃ f, (atB L x.1).isSome = f := ⟨_, rfl⟩
        have HQ2 := hide hq2
        have HF2 := hide hf2
        have HM2 : Hid (Mlb w2 B L) := HM.out.kp (Kp.of_below (S := fun _ => False) HW2.out.b) (fun h => h)
        have hlk : (Instr.lookup 46 (.map (some B)) (.agg #[.int .i64 x.1.v, .int .u64 (x.1.c : Nat), .int .u64 (x.1.h : Nat), .string (nstr x.1.d)]) true).run Tryz.prog w2.drew = .ok (.tuple #[.agg #[.string (nstr q2)], .bool f2]) w2.drew := by
          have h := (HM2.out.block (w' := w2.drew) rfl).look HL.out
          rw [hq2, hf2] at h
          exact h
        have c0 : w2.cell? ⟨wr.heap.size, 0, none⟩ = some (.int .i64 x.1.v) := blk_cell (j := 0) HT2.out rfl
        have c1 : w2.cell? ⟨wr.heap.size, 1, none⟩ = some (.int .u64 (x.1.c : Nat)) := blk_cell (j := 1) HT2.out rfl
        have c2 : w2.cell? ⟨wr.heap.size, 2, none⟩ = some (.int .u64 (x.1.h : Nat)) := blk_cell (j := 2) HT2.out rfl
        have c3 : w2.cell? ⟨wr.heap.size, 3, none⟩ = some (.string (nstr x.1.d)) := blk_cell (j := 3) HT2.out rfl
        have s3 : w2.cell? ⟨g, 3, none⟩ = some (.map (some B)) := keep_below HW2.out.b _ _ (blk_cell (j := 3) HG.out rfl)
        have hlk2 : (Instr.lookup 46 (.map (some B)) (.agg #[.int .i64 x.1.v, .int .u64 (x.1.c : Nat), .int .u64 (x.1.h : Nat), .string (nstr x.1.d)]) true).run Tryz.prog (w2.alloc (.cells #[.string ⟨#[]⟩] 74)).drew = .ok (.tuple #[.agg #[.string (nstr q2)], .bool f2]) (w2.alloc (.cells #[.string ⟨#[]⟩] 74)).drew := by
          have h := ((HM2.out.next (below_alloc4 w2 _)).block (w' := (w2.alloc (.cells #[.string ⟨#[]⟩] 74)).drew) rfl).look HL.out
          rw [hq2, hf2] at h
          exact h
        have l1 : wr.heap.size < w2.heap.size := blk_lt HT2.out
        have l2 : g < w2.heap.size := World.block_lt_of_cell? w2 _ s3
        clear hq2 hf2 HQ HF HW1 d0
        go_upto_region 9 with fail
        go_cut [13, 14] (fun a b wx => a = .pointer (some ⟨w2.heap.size, 0, none⟩) ∧ b = .bool f2 ∧ wx = (w2.alloc (.cells #[.string (nstr q2)] 74)).drew)
        case first => as_aux_lemma =>
          go_region
          all_goals (go_wp2_with fail; go_meet; exact ⟨rfl, rfl, rfl⟩)
        case rest =>
          obtain ⟨rfl, rfl, rfl⟩ := hcut
          have HB3 : Hid (Below w2.heap.size w2 (w2.alloc (.cells #[.string (nstr q2)] 74)).drew) := (below_alloc4 w2 _).drew
          have HA3 : Hid ((w2.alloc (.cells #[.string (nstr q2)] 74)).drew.heap[w2.heap.size]? = some (.cells #[.string (nstr q2)] 74 (0, 0))) := heap_alloc_new w2 _
          clear hlk hlk2 cv2 c0 c1 c2 c3 d4 s3
          generalize (w2.alloc (.cells #[.string (nstr q2)] 74)).drew = w3 at *
          have HW3 := hide (HW2.out.next HB3.out)
          have HY3 : Hid (Dfy w w3 s x (.slice va n vc) wr.heap.size w2.heap.size q2 s.f) := ⟨HW3.out.b, HW3.out.r, HW3.out.d, HW3.out.m, (HB3.out.block _ (blk_lt HT2.out)).trans HT2.out, HA3.out⟩
          have HSF := hide HW3.out.p
          have HSG := hide HW3.out.g
          have HQB2 : Hid (∀ y ∈ q2, y < 256) := qb_of HQ2.out (fun b hb => (HM2.out.ok _ (atB_mem hb)).b)
          have HQ6 : Hid (q2.length ≤ 67108864) := ql_of HQ2.out (fun b hb => (HM2.out.ok _ (atB_mem hb)).n)
          clear HB3 HA3 HT2 HW2 HM2 l1 l2
          go_step
          go_step
          go_cut [7] (fun a wx => ∃ f : Nat, Hid (Dfy w wx s x (.slice va n vc) wr.heap.size w2.heap.size q2 f ∧ f ≤ s.f + 1 ∧ q2.length ≤ 67108864 ∧ drf L X ⟨[], 0, 0⟩ = drf L (X.drop (i + 1)) ⟨x :: s.d, f, s.g + (x.2.length - q2.length)⟩))
          case first =>
            have b0 : w3.cell? ⟨w2.heap.size, 0, none⟩ = some (.string (nstr q2)) := blk_cell (j := 0) HY3.out.qb rfl
            cases f2
            · have hS := at_none13 HF2.out
              have HE : Hid (Dfy w (w3.setCell ⟨w.heap.size + 2, 1, none⟩ (.int .i64 ((s.f + 1 : Nat) : Int))) s x (.slice va n vc) wr.heap.size w2.heap.size q2 (s.f + 1) ∧ s.f + 1 ≤ s.f + 1 ∧ q2.length ≤ 67108864 ∧ drf L X ⟨[], 0, 0⟩ = drf L (X.drop (i + 1)) ⟨x :: s.d, s.f + 1, s.g + (x.2.length - q2.length)⟩) := by
                refine ⟨HY3.out.fresh, Nat.le_refl _, HQ6.out, ?_⟩
                have hq0 : q2 = [] := by rw [← HQ2.out, hS]; rfl
                rw [HW3.out.f, HDC.out, drf_new HA.out hS, hq0]
                simp
              have m1 : w3.cell? ⟨w.heap.size + 2, 1, none⟩ = some (.int .i64 (s.f : Nat)) := blk_cell (j := 1) HY3.out.d rfl
              have z1 := blk_frozen 1 HY3.out.d
              have wr3 : IntKind.i64.wrap ((s.f : Int) + 1) = ((s.f + 1 : Nat) : Int) := by have := HSF.out; rw [IntKind.wrap_i64]; omega
              clear hS HY3 HW3 HSF HSG
              go_wp2_with fail
              go_meet
              case rel => exact ⟨_, HE⟩
            · have hS := at_some13 HQ2.out HF2.out
              have HS := hide hS
              have e12 := bneS HQB2.out HBY.out
              have d4 : w3.cell? ⟨wr.heap.size, 4, none⟩ = some (.slice va n vc) := blk_cell (j := 4) HY3.out.xb rfl
              have cv3 := (HBS.out.move (keep_below HY3.out.b)).text
              clear hS
              by_cases hqx : q2 = x.2
              · rw [decide_eq_true hqx] at e12
                have HE : Hid (Dfw w L X w3 (i + 1) s) := HW3.out.skip (by rw [HW3.out.f, HDC.out, drf_stands HA.out HS.out hqx])
                clear hqx HS HY3 HW3
                go_wp2_with fail
                go_roundw
                case rel => exact ⟨i + 1, s, by omega, by go_num, HE⟩
                case measure => simp [intOf]; omega
              · rw [decide_eq_false hqx] at e12
                have HU := hide hqx
                have c0 : w3.cell? ⟨wr.heap.size, 0, none⟩ = some (.int .i64 x.1.v) := blk_cell (j := 0) HY3.out.xb rfl
                have c1 : w3.cell? ⟨wr.heap.size, 1, none⟩ = some (.int .u64 (x.1.c : Nat)) := blk_cell (j := 1) HY3.out.xb rfl
                have c2 : w3.cell? ⟨wr.heap.size, 2, none⟩ = some (.int .u64 (x.1.h : Nat)) := blk_cell (j := 2) HY3.out.xb rfl
                have c3 : w3.cell? ⟨wr.heap.size, 3, none⟩ = some (.string (nstr x.1.d)) := blk_cell (j := 3) HY3.out.xb rfl
                have cvs := conv_sb w3 (nstr q2)
                have HS1 : Hid (BSl (Lib.bytesWorld w3 5 (nstr q2)) (.slice (some ⟨w3.heap.size, 0, none⟩) (nstr q2).size (grownCap w3 (nstr q2).size 0 5)) q2) := by
                  have h := conv_sb_bsl w3 (nstr q2) (by rw [nstr_size HQB2.out]; have := HQ6.out; omega)
                  rw [sl_nstr HQB2.out] at h
                  exact h
                have HY4 := hide (HY3.out.next (conv_sb_below w3 (nstr q2)))
                have HH := hide (holds13_any (Lib.bytesWorld w3 5 (nstr q2)) x.1 HL.out.toLkb _ q2 (HCB.out.below HY4.out.b) HS1.out (by have := HQ6.out; omega))
                simp only [lkv] at HH
                clear hqx
                cases hh : dholds x.1.h x.1.d q2
                · rw [hh] at HH
                  have HEQ : Hid (drf L X ⟨[], 0, 0⟩ = drf L (X.drop (i + 1)) ⟨x :: s.d, s.f, s.g + (x.2.length - q2.length)⟩) := by show _ = _; rw [HW3.out.f, HDC.out, drf_over HA.out HS.out HU.out hh]
                  clear hh HU HY3 HW3
                  go_wp2_with (go_at_call 19; refine HH.out.mono ?_; rintro e w6 ⟨rfl, hb6⟩)
                  have HY6 := hide (HY4.out.next hb6)
                  go_meet
                  case rel => exact ⟨s.f, HY6.out, Nat.le_succ _, HQ6.out, HEQ.out⟩
                · rw [hh] at HH
                  have HEQ : Hid (drf L X ⟨[], 0, 0⟩ = none) := by show _ = _; rw [HW3.out.f, HDC.out, drf_clash HA.out HS.out HU.out hh]
                  clear hh HU HY3 HW3
                  go_upto_region 14 with (go_at_call 19; refine HH.out.mono ?_; rintro e w6 ⟨rfl, hb6⟩)
                  have HY6 := hide (HY4.out.next hb6)
                  go_wp2_with (refine wpList_zeroD rfl rfl w.heap.size rfl rfl HY6.out.r ?_)
                  exact bodyPost_ret (end_c2 rfl Tryz.underlying82 infoDr rfl HY6.out.r rfl rfl) rfl (DrP.no HY6.out.b HEQ.out)
          case rest =>
            obtain ⟨f, HY0⟩ := hcut
            have HY := hide HY0.out.1
            have HEQ := hide HY0.out.2.2.2
            have hf1 := HY0.out.2.1
            have hq6 := HY0.out.2.2.1
            have hsp := HSF.out
            have hsg := HSG.out
            have hx6 := HX6.out
            have HNI := hide HW3.out.n
            clear HY0 HY3 HW3 HSF HSG HX6
            have HG5 : Hid (Bgd (x.1, x.2)) := ⟨HL.out, HBY.out, hx6⟩
            have HLE : Hid (s.d.length < 140737488351232) := by have := HNI.out; show _ < _; omega
            have c0 : wc.cell? ⟨wr.heap.size, 0, none⟩ = some (.int .i64 x.1.v) := blk_cell (j := 0) HY.out.xb rfl
            have c1 : wc.cell? ⟨wr.heap.size, 1, none⟩ = some (.int .u64 (x.1.c : Nat)) := blk_cell (j := 1) HY.out.xb rfl
            have c2 : wc.cell? ⟨wr.heap.size, 2, none⟩ = some (.int .u64 (x.1.h : Nat)) := blk_cell (j := 2) HY.out.xb rfl
            have c3 : wc.cell? ⟨wr.heap.size, 3, none⟩ = some (.string (nstr x.1.d)) := blk_cell (j := 3) HY.out.xb rfl
            have c4 : wc.cell? ⟨wr.heap.size, 4, none⟩ = some (.slice va n vc) := blk_cell (j := 4) HY.out.xb rfl
            have m0 : wc.cell? ⟨w.heap.size + 2, 0, none⟩ = some (.map (some (w.heap.size + 1))) := blk_cell (j := 0) HY.out.d rfl
            have cv4 := (HBS.out.move (keep_below HY.out.b)).text
            go_upto_region 16 with (at_mapUpdate; refine wpList_putB (B := w.heap.size + 1) (L := s.d) (l := x.1) (b := x.2) rfl rfl rfl rfl rfl HY.out.m HG5.out HLE.out ?_; intro w5 hM5 hK5 hz5; go_frame)
            have hpd : putB s.d x.1 x.2 = x :: s.d := by unfold putB; rw [delB_none HA.out]
            rw [hpd] at hM5
            have HY5 : Hid (Dfy w w5 ⟨x :: s.d, f, s.g⟩ x (.slice va n vc) wr.heap.size w2.heap.size q2 f) := HY.out.put hK5 hM5 rfl
            clear hM5 hK5 hz5 hpd c0 c1 c2 c3 c4 m0 cv4 HY HG5
            have d4 : w5.cell? ⟨wr.heap.size, 4, none⟩ = some (.slice va n vc) := blk_cell (j := 4) HY5.out.xb rfl
            have d0 : w5.cell? ⟨w2.heap.size, 0, none⟩ = some (.string (nstr q2)) := blk_cell (j := 0) HY5.out.qb rfl
            have m2 : w5.cell? ⟨w.heap.size + 2, 2, none⟩ = some (.int .i64 s.g) := blk_cell (j := 2) HY5.out.d rfl
            have z2 := blk_frozen 2 HY5.out.d
            obtain ⟨y, hy⟩ : ∃ y : Int, s.g + ((x.2.length : Int) - (q2.length : Int)) = y := ⟨_, rfl⟩
            have hqs : ((nstr q2).size : Int) = (q2.length : Int) := by rw [nstr_size HQB2.out]
            have wr1 : IntKind.i64.wrap ((n : Int) - ((nstr q2).size : Int)) = (x.2.length : Int) - (q2.length : Int) := by have := HN.out; rw [IntKind.wrap_i64, hqs]; omega
            have wr2 : IntKind.i64.wrap (s.g + ((x.2.length : Int) - (q2.length : Int))) = y := by rw [IntKind.wrap_i64]; omega
            have hs6 := blk_set 2 (.int .i64 y) HY5.out.d
            have hk6 : Kp (fun q => q = w.heap.size + 2) w5 (w5.setCell ⟨w.heap.size + 2, 2, none⟩ (.int .i64 y)) := (Kp.refl _ w5).setCell _ _ (fun _ => rfl)
            have HE : Hid (Dfw w L X (w5.setCell ⟨w.heap.size + 2, 2, none⟩ (.int .i64 y)) (i + 1) ⟨x :: s.d, f, s.g + (x.2.length - q2.length)⟩) :=
              ⟨HY5.out.b.trans (hk6.below HY5.out.b.size (fun _ e => by omega)), (hk6.block _ (blk_lt HY5.out.r) (by omega)).trans HY5.out.r, by rw [hy]; exact hs6, HY5.out.m.kp hk6 (by omega), HEQ.out, Nat.succ_le_succ HNI.out, (by show f ≤ i + 1; omega), by constructor <;> (simp only; omega)⟩
            clear HEQ HY5 hy hs6 hk6 hsp hsg hx6 hf1 hq6 hqs HNI
            go_wp2_with fail
            go_roundw
            case rel => exact ⟨i + 1, _, by omega, by go_num, HE⟩
            case measure => simp [intOf]; omega
      · have hA := at_some13 HQ.out HF.out
        have HQB : Hid (∀ y ∈ q, y < 256) := (HW1.out.m.ok _ (atB_mem hA)).b
        have e7 := bneS HQB.out HBY.out
        have HR2 := hide HW2.out.r
        by_cases hqx : q = x.2
        · rw [decide_eq_true hqx] at e7
          have HE : Hid (Dfw w L X w2 (i + 1) s) := HW2.out.skip (by rw [HW2.out.f, HDC.out, drf_same hA hqx])
          clear hqx hA HW1 HW2 HT2 HQB HQ HF
          go_wp2_with fail
          go_roundw
          case rel => exact ⟨i + 1, s, by omega, by go_num, HE⟩
          case measure => simp [intOf]; omega
        · rw [decide_eq_false hqx] at e7
          have HE : Hid (drf L X ⟨[], 0, 0⟩ = none) := by show _ = _; rw [HW2.out.f, HDC.out, drf_unlike hA hqx]
          have HBE := hide HW2.out.b
          clear hqx hA HW1 HW2 HT2 HQB HQ HF
          go_wp2_with (refine wpList_zeroD rfl rfl w.heap.size rfl rfl HR2.out ?_)
          exact bodyPost_ret (end_c2 rfl Tryz.underlying82 infoDr rfl HR2.out rfl rfl) rfl (DrP.no HBE.out HE.out)
    · have g1 : ¬ (i : Int) < (X.length : Int) := by omega
      have HE : Hid (drf L X ⟨[], 0, 0⟩ = some s) := by show _ = _; rw [HR.out.f, List.drop_eq_nil_of_le (by omega), drf]
      have HB9 := hide HR.out.b
      have HM9 := hide HR.out.m
      have HR9 := hide HR.out.r
      have hne : w.heap.size + 1 ≠ w.heap.size := by omega
      have HA9 : Hid ((dfc (w.heap.size + 1) s).all (·.oneCell') = true) := by show _ = _; simp [dfc, Value.oneCell']
      have q0 : wr.cell? ⟨w.heap.size + 2, 0, none⟩ = some (.map (some (w.heap.size + 1))) := blk_cell (j := 0) HR.out.d rfl
      have q1 : wr.cell? ⟨w.heap.size + 2, 1, none⟩ = some (.int .i64 (s.f : Nat)) := blk_cell (j := 1) HR.out.d rfl
      have q2 : wr.cell? ⟨w.heap.size + 2, 2, none⟩ = some (.int .i64 s.g) := blk_cell (j := 2) HR.out.d rfl
      clear HR
      go_wp2_with (refine wpList_storeRow rfl rfl w.heap.size dzc (dfc (w.heap.size + 1) s) 82 rfl rfl HR9.out infoDr rfl HA9.out ?_)
      have hk := row_kp wr w.heap.size (dfc (w.heap.size + 1) s)
      have HP : DrP w L X (.returned (.tuple #[.agg (dfc (w.heap.size + 1) s), .bool false])) (wr.setRow w.heap.size (dfc (w.heap.size + 1) s)) := DrP.yes (HB9.out.trans (hk.below HB9.out.size (fun q e => by omega))) HE.out (HM9.out.kp hk hne)
      refine bodyPost_ret (v := .tuple #[.agg (dfc (w.heap.size + 1) s), .bool false]) (end_c2 (cs := dfc (w.heap.size + 1) s) rfl Tryz.underlying82 infoDr rfl (row_same HR9.out) rfl rfl) rfl ?_
      exact HP
end
section
open Go.RowKit Go
theorem raceOff (w : World) : (callFunc 68 #[]).run Tryz.prog w = .ok (.value (.tuple #[])) w := run_call_mark0 Tryz.func68 (by kernel_rfl) (by kernel_rfl) (by kernel_rfl) .disable (by kernel_rfl) w
theorem raceOn (w : World) : (callFunc 70 #[]).run Tryz.prog w = .ok (.value (.tuple #[])) w := run_call_mark0 Tryz.func70 (by kernel_rfl) (by kernel_rfl) (by kernel_rfl) .enable (by kernel_rfl) w
theorem raceGet (a : Addr) (w : World) : (callFunc 71 #[.pointer (some a)]).run Tryz.prog w = .ok (.value (.tuple #[])) w := run_call_marked Tryz.func71 (by kernel_rfl) (by kernel_rfl) (by kernel_rfl) .acquire (by kernel_rfl) a w
theorem racePut (a : Addr) (w : World) : (callFunc 73 #[.pointer (some a)]).run Tryz.prog w = .ok (.value (.tuple #[])) w := run_call_marked Tryz.func73 (by kernel_rfl) (by kernel_rfl) (by kernel_rfl) .releaseMerge (by kernel_rfl) a w
set_option maxRecDepth 1000000 in
theorem lockFree (a : Addr) (w : World) (hc : w.cell? a = some (.int .i32 0)) (hz : w.frozen? a = false) : Calls Tryz.prog 28 #[.pointer (some a)] w fun e w' => e = .returned (.tuple #[]) ∧ w' = w.setCell a (.int .i32 1) := by
  have hd := raceOff
  have he := raceOn
  have ha := raceGet
  have hcas := run_call_cas_hit (P := Tryz.prog) Tryz.func69 (by kernel_rfl) (by kernel_rfl) (by kernel_rfl) .i32 (by kernel_rfl) (y := 1) hc hz
  have hc' : (w.setCell a (.int .i32 1)).cell? a = some (.int .i32 1) := World.cell?_setCell_same w a _ hc
  have hcv := run_convert_to_unsafe (P := Tryz.prog) (src := 125) (dst := 110) Tryz.underlying125 Tryz.underlying110 (by kernel_rfl) hc'
  go_enter Tryz.func28, Tryz.ntmps28
  go_wp2
  first | go_end0 | (simp only [Exit.inBlock, Exit.then]; refine bodyPost_ret (results_none rfl _ _ _) rfl ?_) | refine bodyPost_ret (results_none rfl _ _ _) rfl ?_
  go_wp2
  go_end0
  exact ⟨rfl, rfl⟩
set_option maxRecDepth 1000000 in
theorem unlockLate (a : Addr) (u : FrameMode) (w : World) (hc : w.cell? a = some (.int .i32 1)) (hz : w.frozen? a = false) : CallsD Tryz.prog 29 #[.pointer (some a)] u w fun e u' w' => u' = u ∧ (e = .returned (.tuple #[]) ∧ w' = w.setCell a (.int .i32 0)) := by
  have hd := raceOff
  have he := raceOn
  have hr := racePut
  have hadd := run_call_add (P := Tryz.prog) Tryz.func74 (by kernel_rfl) (by kernel_rfl) (by kernel_rfl) .i32 (by kernel_rfl) (y := -1) (s := 0) hc hz (by simp [go_sem]; rfl)
  have hcv := run_convert_to_unsafe (P := Tryz.prog) (src := 125) (dst := 110) Tryz.underlying125 Tryz.underlying110 (by kernel_rfl) hc
  go_enter_d Tryz.func29, Tryz.ntmps29
  go_wp2
  go_end0
  go_wp2
  go_end0
  exact ⟨rfl, rfl⟩
end
end Go.Proofs.YtnbbnainmifenaaGreatDoor
