import Derived.Test.YtibcepokeaaoiabDoorJg
import Derived.Laws.Concat
namespace Go.Proofs.YtibcepokeaaoiabDoor
section
open Go.RowKit Go
theorem val_pow {fr tt : Nat} {p : List Nat} (hp : ∀ x ∈ p, x < fr) (hf : 2 ≤ fr) (hf2 : fr ≤ 256) (ht : 2 ≤ tt) : valB fr p < tt ^ (8 * p.length) := by
  have h1 := valB_lt (b := fr) (by omega) hp
  have h2 : fr ^ p.length ≤ 256 ^ p.length := Nat.pow_le_pow_left hf2 _
  have h3 : 256 ^ p.length = 2 ^ (8 * p.length) := by rw [Nat.pow_mul]
  have h4 : 2 ^ (8 * p.length) ≤ tt ^ (8 * p.length) := Nat.pow_le_pow_left ht _
  omega
theorem Rcd.len {fr tt : Nat} {p L : List Nat} (h : Rcd fr tt p L) (hp : ∀ x ∈ p, x < fr) (hf : 2 ≤ fr) (hf2 : fr ≤ 256) (ht : 2 ≤ tt) : L.length ≤ 8 * p.length := by
  rcases h.n with h1 | h1
  · rw [h1]
    simp
  · have h2 := val_pow hp hf hf2 ht
    rw [h.v] at h1
    have := (Nat.pow_lt_pow_iff_right (a := tt) (by omega)).1 (Nat.lt_of_le_of_lt h1 h2)
    omega
theorem Rce.len {fr tt : Nat} {p M : List Nat} {cy : Nat} (h : Rce tt (valB fr p) M cy) (hc : 0 < cy) (hp : ∀ x ∈ p, x < fr) (hf : 2 ≤ fr) (hf2 : fr ≤ 256) (ht : 2 ≤ tt) : M.length < 8 * p.length := by
  have h1 := h.v
  have h2 := val_pow hp hf hf2 ht
  have h3 : tt ^ M.length * 1 ≤ tt ^ M.length * cy := Nat.mul_le_mul_left _ hc
  exact (Nat.pow_lt_pow_iff_right (a := tt) (by omega)).1 (by omega)
theorem rc_sum {cy d fr : Nat} (hc : cy < 65536) (hd : d < 256) (hf : fr ≤ 256) : wrap64 ((cy : Int) + wrap64 (wrap64 (d : Int) * (fr : Int))) = ((cy + d * fr : Nat) : Int) := by
  have h1 : d * fr ≤ 255 * 256 := Nat.mul_le_mul (by omega) hf
  have e1 : wrap64 (d : Int) = (d : Int) := by unfold wrap64; omega
  rw [e1, ← Int.natCast_mul]
  generalize d * fr = m at *
  unfold wrap64
  omega
theorem rc_lt {cy d fr : Nat} (hc : cy < 65536) (hd : d < 256) (hf : fr ≤ 256) : cy + d * fr < 131072 := by
  have h1 : d * fr ≤ 255 * 256 := Nat.mul_le_mul (by omega) hf
  omega
theorem rc_div {s tt : Nat} (hs : s < 131072) : wrap64 ((s : Int).tdiv (tt : Int)) = ((s / tt : Nat) : Int) := by
  have e : (s : Int).tdiv (tt : Int) = ((s / tt : Nat) : Int) := rfl
  have h : s / tt ≤ s := Nat.div_le_self _ _
  rw [e]
  generalize s / tt = q at *
  unfold wrap64
  omega
theorem rc_mod {s tt : Nat} (ht : 2 ≤ tt) (ht2 : tt ≤ 256) : (s : Int).tmod (tt : Int) % 256 = ((s % tt : Nat) : Int) := by
  have e : (s : Int).tmod (tt : Int) = ((s % tt : Nat) : Int) := rfl
  have h : s % tt < tt := Nat.mod_lt _ (by omega)
  rw [e]
  omega
/-- What recast has in hand. -/
structure Rcw (w wx : World) (vl : Value) (M : List Nat) : Prop where
  o : wx.ownsRow w.heap.size 5 1 vl M.length (bv M)
  b : Below w.heap.size w wx
end
section
open Go.RowKit Go
/-- A row's digits in a base. -/
def cutd (b : Bs) (xs : List Nat) : List Nat := if b.n = 0 then conv 256 b.t.size xs else encW b.n xs
/-- A base that may be. -/
structure Bok (b : Bs) : Prop where
  n : b.n ≤ 8
  t : 2 ≤ b.t.size
  t2 : b.t.size ≤ 58
  e : b.n ≠ 0 → 2 ^ b.n = b.t.size
  w : tells (sl b.t)
  z : b.l.size ≤ 8
theorem bok16 : Bok b16 := ⟨by decide, by decide, by decide, fun _ => by decide, by show tells (sl s16); rw [sl16]; exact tells16, by decide⟩
theorem bok32 : Bok b32 := ⟨by decide, by decide, by decide, fun _ => by decide, by show tells (sl s32); rw [sl32]; exact tells32, by decide⟩
theorem bok58 : Bok b58 := ⟨by decide, by decide, by decide, fun h => absurd rfl h, by show tells (sl s58); rw [sl58]; exact tells58, by decide⟩
theorem cutd_lt {b : Bs} (hb : Bok b) (xs : List Nat) : ∀ x ∈ cutd b xs, x < b.t.size := by
  unfold cutd
  split
  · exact conv_lt hb.t xs
  · rename_i h
    rw [← hb.e h]
    exact encW_lt (by omega) xs
theorem byte8 {xs : List Nat} (h : ∀ x ∈ xs, x < 256) : ∀ x ∈ xs, x < 2 ^ 8 := h
end
section
open Go.RowKit Go
/-- A row's text in a base. -/
def btext (b : Bs) (xs : List Nat) : List Nat := (cutd b xs).map fun d => (sl b.t).getD d 0
theorem btext_byte (b : Bs) (xs : List Nat) : ∀ x ∈ btext b xs, x < 256 := by
  intro x hx
  obtain ⟨d, _, rfl⟩ := List.mem_map.1 hx
  exact getD_lt (sl_byte b.t) d
theorem map_step (ds : List Nat) (f : Nat → Nat) (k : Nat) (hk : k < ds.length) : ((ds.take k).map f ++ ds.drop k).set k (f (ds.getD k 0)) = (ds.take (k + 1)).map f ++ ds.drop (k + 1) := by
  rw [take_at ds k hk, List.map_append, List.drop_eq_getElem_cons hk, List.set_append_right _ _ (by simp; omega)]
  have hl : ((ds.take k).map f).length = k := by rw [List.length_map, List.length_take]; omega
  rw [hl, Nat.sub_self, List.set_cons_zero]
  simp
theorem map_get (ds : List Nat) (f : Nat → Nat) (k : Nat) (hk : k < ds.length) : ((ds.take k).map f ++ ds.drop k).getD k 0 = ds.getD k 0 := by
  have hl : ((ds.take k).map f).length = k := by rw [List.length_map, List.length_take]; omega
  rw [List.getD_eq_getElem?_getD, List.getElem?_append_right (by omega), hl, Nat.sub_self, List.getElem?_drop, Nat.add_zero, ← List.getD_eq_getElem?_getD]
theorem map_len (ds : List Nat) (f : Nat → Nat) (k : Nat) (hk : k ≤ ds.length) : ((ds.take k).map f ++ ds.drop k).length = ds.length := by
  rw [List.length_append, List.length_map, List.length_take, List.length_drop]
  omega
theorem cutd_len {b : Bs} (hb : Bok b) {xs : List Nat} (h : ∀ x ∈ xs, x < 256) : (cutd b xs).length ≤ 9 * xs.length + 9 := by
  unfold cutd
  split
  · unfold conv
    rw [List.length_append, List.length_replicate]
    have hd : ∀ x ∈ xs.dropWhile (· == 0), x < 256 := fun x hx => h x ((List.dropWhile_suffix _).subset hx)
    have h1 := digB_len hb.t _ _ (val_pow hd (by decide) (by decide) hb.t)
    have h2 := congrArg List.length (List.takeWhile_append_dropWhile (p := (· == 0)) (l := xs))
    rw [List.length_append] at h2
    omega
  · rename_i h0
    unfold encW
    rw [grp_len (by omega) _ _ (Nat.le_refl _), List.length_append, flat_len, List.length_replicate]
    have h1 := Nat.mod_lt (b.n - xs.length * 8 % b.n) (show 0 < b.n by omega)
    have h2 := hb.n
    have h3 := Nat.div_le_self (xs.length * 8 + (b.n - xs.length * 8 % b.n) % b.n) b.n
    omega
end
section
open Go.RowKit Go
theorem sl_map16 (l : List Nat) : (l.map fun d => (sl s16).getD d 0) = l.map (d16.getD · 0) := by rw [sl16]
theorem btext16 (xs : List Nat) : btext b16 xs = of16 xs := by
  show (encW 4 xs).map (fun d => (sl s16).getD d 0) = _
  rw [sl16]
  rfl
theorem btext32 (xs : List Nat) : btext b32 xs = of32 xs := by
  show (encW 5 xs).map (fun d => (sl s32).getD d 0) = _
  rw [sl32]
  rfl
theorem btext58 (xs : List Nat) : btext b58 xs = of58 xs := by
  show (conv 256 58 xs).map (fun d => (sl s58).getD d 0) = _
  rw [sl58]
  rfl
/-- What TextIn tells, and its error. -/
def ltin (l : Lk) (n : Int) : List Nat × Int := if lok l then (if l.v = 0 ∨ ¬ (n = 1 ∨ n = 2 ∨ n = 3) then ([], 45) else (sl (bof n).l ++ btext (bof n) (lbytes l), 0)) else ([], 40)
def lttx (l : Lk) : List Nat × Int := if lok l then (ltext l, 0) else ([], 40)
theorem bof_ok {n : Int} (h : n = 1 ∨ n = 2 ∨ n = 3) : Bok (bof n) := by
  rcases h with rfl | rfl | rfl
  · exact bok16
  · exact bok32
  · exact bok58
theorem ltin_text {l : Lk} (h : lok l) (hv : l.v ≠ 0) {n : Nat} (hn : n = 1 ∨ n = 2 ∨ n = 3) : ltin l n = (ltextin l n, 0) := by
  unfold ltin
  rw [if_pos h, if_neg (by omega)]
  rcases hn with rfl | rfl | rfl
  · show (sl b16.l ++ btext b16 _, _) = _
    rw [btext16]
    rfl
  · show (sl b32.l ++ btext b32 _, _) = _
    rw [btext32]
    rfl
  · show (sl b58.l ++ btext b58 _, _) = _
    rw [btext58]
    rfl
theorem add_str (a b : ByteArray) : sl (a ++ b) = sl a ++ sl b := by
  simp [sl]
end
section
open Go.RowKit Go
theorem nstr_cat (a : ByteArray) {xs : List Nat} (h : ∀ x ∈ xs, x < 256) : a ++ nstr xs = nstr (sl a ++ xs) := by
  rw [← nstr_sl (a ++ nstr xs), add_str, sl_nstr h]
/-- Two strings joined, as a step of a region that draws. -/
theorem qstep_cat {C : World → Prop} {ops : Array Oper} {o : Oper} {a : Act} {K : Act → Prop} {x y : Operand} {T T2 : TypeId} (hgd : Region.wanted o (yielded ops a.tmps) = true) (ho : o.op = .binOp .add T x y T2) (A B : ByteArray)
    (hx : a.eval x = .string A) (hy : a.eval y = .string B) (hz : A.size + B.size ≤ 9223372036854775807)
    (h : K (a.put o.dst (.string (A ++ B)))) : if Region.wanted o (yielded ops a.tmps) = true then o.quiet Tryd.prog a C K else K (a.put o.dst undef) := by
  rw [if_pos hgd]
  refine ⟨.string (A ++ B), fun w hC => ?_, h⟩
  unfold Oper.quietAt execOp
  simp only [ho, Sem.run_bind, hx, hy, eqGuard_at_string, binOp_string_add, run_string_add_sum w A B (by omega), Result.andThen_ok, Sem.run_pure]
  exact ⟨rfl, rfl⟩
end
section
open Go.RowKit Go
/-- What ending tells. -/
def lend (xs : List Nat) : Nat × List Nat × Nat × Nat := if (dread xs).2.2.2 = 0 then dread xs else (0, [], 0, lerr (dread xs).2.2.2)
theorem lend_third (v : Int) (c at' : Nat) (b : List Nat) : lthird v c at' b = if (lend (b.drop at')).2.2.2 = 0 then (⟨v, c, (lend (b.drop at')).1, (lend (b.drop at')).2.1⟩, at' + (lend (b.drop at')).2.2.1, 0) else (Lk.none, 0, (lend (b.drop at')).2.2.2) := by
  unfold lthird lend
  by_cases h : (dread (b.drop at')).2.2.2 = 0
  · rw [if_pos h, if_pos h, if_pos h]
  · rw [if_neg h, if_neg h, if_neg]
    unfold lerr
    simp only
    split <;> omega
end
section
open Go.RowKit Go
/-- A link's block that is none yet. -/
structure Fz (w wx : World) : Prop where
  r : wx.heap[w.heap.size]? = some (.cells zlk 25 (0, 0))
  b : Below w.heap.size w wx
theorem Fz.below {w wx wy : World} (h : Fz w wx) (hb : Below wx.heap.size wx wy) : Fz w wy := ⟨(hb.block _ (blk_lt h.r)).trans h.r, h.b.trans (hb.mono h.b.size)⟩
theorem Fz.start (w : World) : Fz w (w.alloc (.cells #[.int .i64 0, .int .u64 0, .int .u64 0, .string ⟨#[]⟩] 25)) := ⟨heap_alloc_new w _, below_alloc4 w _⟩
theorem rd_bound4 (xs : List Nat) (h : (rd 0 0 xs).2.2 = 0) : (rd 0 0 xs).1 < 9223372036854775808 ∧ (rd 0 0 xs).2.1 ≤ xs.length := by
  have h1 := dnum_bound xs
  unfold dnum at h1
  rw [if_pos h] at h1
  have := h1 h
  exact ⟨this.1, this.2.1⟩
theorem lend_bound (xs : List Nat) : (lend xs).2.2.1 ≤ xs.length := by
  unfold lend
  by_cases h0 : (dread xs).2.2.2 = 0
  · rw [if_pos h0]
    exact (dread_back h0).1
  · rw [if_neg h0]
    simp
theorem dread_first {xs : List Nat} (h : (dread xs).2.2.2 = 0) : (dread xs).1 = (dnum xs).1 := by
  unfold dread at h ⊢
  split
  · rename_i h1
    rw [if_pos h1] at h
    exact absurd h h1
  · rename_i h1
    rw [if_neg h1] at h
    split
    · rename_i h2
      rw [if_pos h2] at h
      exact absurd h h2
    · rename_i h2
      rw [if_neg h2] at h
      split
      · rename_i h3
        rw [if_pos h3] at h
        simp at h
      · rename_i h3
        rw [if_neg h3] at h
        split
        · rename_i h4
          rw [if_pos h4] at h
          simp at h
        · rename_i h4
          rw [if_neg h4] at h
          split
          · rename_i h5
            rw [if_pos h5] at h
            simp at h
          · rfl
theorem lend_byte {xs : List Nat} (h : ∀ x ∈ xs, x < 256) : ∀ x ∈ (lend xs).2.1, x < 256 := by
  unfold lend
  split
  · exact dread_bytes4 h
  · simp
end
section
open Go.RowKit Go
theorem sl_extract (s : ByteArray) (i j : Nat) : sl (s.extract i j) = ((sl s).take j).drop i := by
  unfold sl
  rw [ByteArray.data_extract, Array.toList_extract, List.extract_eq_take_drop, List.map_take, List.map_drop, ← List.drop_take]
theorem sl_tail (s : ByteArray) : sl (s.extract 1 s.size) = (sl s).drop 1 := by
  rw [sl_extract, List.take_of_length_le (by rw [sl_len]; exact Nat.le_refl _)]
theorem ext_tail (s : ByteArray) : s.extract 1 s.size = nstr ((sl s).drop 1) := by
  rw [← sl_tail, nstr_sl]
theorem ext_head (s : ByteArray) {x : Nat} {r : List Nat} (h : sl s = x :: r) (c : UInt8) : ((s.extract 0 1).toList == [c]) = decide (x = c.toNat) := by
  have h1 : sl (s.extract 0 1) = [x] := by rw [sl_extract, h]; rfl
  have h2 : (s.extract 0 1).toList = (s.extract 0 1).data.toList := ByteArray.toList_eq _
  rw [h2]
  unfold sl at h1
  generalize (s.extract 0 1).data.toList = l at *
  cases l with
  | nil => simp at h1
  | cons u m =>
    simp only [List.map_cons, List.cons.injEq, List.map_eq_nil_iff] at h1
    obtain ⟨h3, rfl⟩ := h1
    subst h3
    rw [Bool.eq_iff_iff]
    simp [UInt8.toNat_inj]
theorem not_empty (s : ByteArray) {x : Nat} {r : List Nat} (h : sl s = x :: r) : s.toList.isEmpty = false := by
  rw [ByteArray.toList_eq]
  unfold sl at h
  cases hl : s.data.toList with
  | nil => rw [hl] at h; simp at h
  | cons u m => rfl
/-- What split tells. -/
def spl : List Nat → Bs × List Nat × Bool
  | [] => (b0, [], false)
  | x :: r => if x = 81 then (b58, x :: r, true) else if x = 102 then (b16, r, true) else if x = 98 then (b32, r, true) else if x = 122 then (b58, r, true) else (b0, r, false)
theorem below_drewN (w : World) (n : Nat) : Below w.heap.size w (w.drewN n) := ((Kp.refl (fun _ => False) w).drewN n).below (Nat.le_refl _) (fun _ h => h.elim)
end
section
open Go.RowKit Go
/-- The row that a text is in a base. -/
def rowd (b : Bs) (s : List Nat) : Option (List Nat) := (looks (sl b.t) s).bind fun l => if b.n = 0 then some (conv b.t.size 256 l) else if encW b.n (decW b.n l) = l then some (decW b.n l) else none
theorem rowd_byte {b : Bs} {s o : List Nat} (h : rowd b s = some o) : ∀ x ∈ o, x < 256 := by
  unfold rowd at h
  obtain ⟨l, _, h⟩ := Option.bind_eq_some_iff.1 h
  split at h
  · injection h with h
    subst h
    exact conv_lt (by decide) l
  · split at h
    · injection h with h
      subst h
      exact decW_lt _ l
    · cases h
end
section
open Go.RowKit Go

end
section
open Go.RowKit Go
theorem enc_map {t : List Nat} {s l x : List Nat} (ht : ∀ i, i < t.length → look t (t.getD i 0) = some i) (hl : looks t s = some l) (hx : ∀ i ∈ x, i < t.length) : x.map (t.getD · 0) = s ↔ x = l := by
  constructor
  · intro e
    have h := looks_map ht hx
    rw [e, hl] at h
    injection h with h
    exact h.symm
  · intro e
    rw [e]
    exact (looks_back hl).1
theorem rowd16 (s : List Nat) : rowd b16 s = in16 s := by
  unfold rowd in16
  show ((looks (sl s16) s).bind fun l => if (4 : Nat) = 0 then _ else if encW 4 (decW 4 l) = l then some (decW 4 l) else none) = _
  rw [sl16]
  cases h : looks d16 s with
  | none => rfl
  | some l =>
    simp only [Option.bind_some]
    rw [if_neg (by decide)]
    have e := enc_map (t := d16) look16 h (encW_lt (w := 4) (by decide) (decW 4 l))
    unfold of16
    by_cases h1 : encW 4 (decW 4 l) = l
    · rw [if_pos h1, if_pos (e.2 h1)]
    · rw [if_neg h1, if_neg (fun h => h1 (e.1 h))]
theorem rowd32 (s : List Nat) : rowd b32 s = in32 s := by
  unfold rowd in32
  show ((looks (sl s32) s).bind fun l => if (5 : Nat) = 0 then _ else if encW 5 (decW 5 l) = l then some (decW 5 l) else none) = _
  rw [sl32]
  cases h : looks d32 s with
  | none => rfl
  | some l =>
    simp only [Option.bind_some]
    rw [if_neg (by decide)]
    have e := enc_map (t := d32) look32 h (encW_lt (w := 5) (by decide) (decW 5 l))
    unfold of32
    by_cases h1 : encW 5 (decW 5 l) = l
    · rw [if_pos h1, if_pos (e.2 h1)]
    · rw [if_neg h1, if_neg (fun h => h1 (e.1 h))]
theorem rowd58 (s : List Nat) : rowd b58 s = in58 s := by
  unfold rowd in58
  show ((looks (sl s58) s).bind fun l => some (conv 58 256 l)) = _
  rw [sl58]
  cases looks d58 s <;> rfl
/-- What ParseText tells, by the landed code's steps. -/
def ptx (s : List Nat) : Lk × Nat :=
  if 153 < s.length then (Lk.none, 46) else if (spl s).2.2 = false then (Lk.none, 45)
  else match rowd (spl s).1 (spl s).2.1 with
    | none => (Lk.none, 46)
    | some b => if (lparse b).2 ≠ 0 then (Lk.none, (lparse b).2) else if decide ((lparse b).1.v = 0) ≠ decide (s.head? = some 81) then (Lk.none, 41) else ((lparse b).1, 0)
theorem ptx_eq {s : List Nat} (hs : ∀ x ∈ s, x < 256) : ptx s = lparsetext s := by
  unfold ptx lparsetext
  by_cases h1 : 153 < s.length
  · rw [if_pos h1, if_pos h1]
  · rw [if_neg h1, if_neg h1]
    have key : ∀ (b : List Nat) (v : Int) (q : Bool), (∀ x ∈ b, x < 256) → (v = if q then 0 else 1) → (if (lparse b).2 ≠ 0 then (Lk.none, (lparse b).2) else if decide ((lparse b).1.v = 0) ≠ q then (Lk.none, 41) else ((lparse b).1, 0)) = (if (lparse b).2 ≠ 0 then (Lk.none, (lparse b).2) else if (lparse b).1.v ≠ v then (Lk.none, 41) else ((lparse b).1, 0)) := by
      intro b v q hb hv
      by_cases h2 : (lparse b).2 = 0
      · have hok := (lparse_back (l := (lparse b).1) hb (by rw [← h2])).1
        have hv01 : (lparse b).1.v = 0 ∨ (lparse b).1.v = 1 := by
          rcases hok with h | h
          · exact .inl h.1
          · exact .inr h.1
        subst hv
        simp only [h2, ne_eq, not_true_eq_false, if_false]
        generalize (lparse b).1 = l at *
        cases q
        · rcases hv01 with h | h
          · simp [h]
          · simp [h]
        · rcases hv01 with h | h
          · simp [h]
          · simp [h]
      · rw [if_pos h2, if_pos h2]
    cases s with
    | nil => rfl
    | cons x r =>
      have hr : ∀ y ∈ r, y < 256 := fun y hy => hs y (List.mem_cons_of_mem _ hy)
      have main : ∀ (bb : Bs) (t : List Nat) (v : Int) (q : Bool), spl (x :: r) = (bb, t, true) → decide ((x :: r).head? = some 81) = q → (v = if q then 0 else 1) → ltake (x :: r) = (rowd bb t).map (fun b => (v, b)) → ¬ ((x :: r).head? ≠ some 81 ∧ (x :: r).head? ≠ some 102 ∧ (x :: r).head? ≠ some 98 ∧ (x :: r).head? ≠ some 122) →
          (if (spl (x :: r)).2.2 = false then (Lk.none, 45) else match rowd (spl (x :: r)).1 (spl (x :: r)).2.1 with
            | none => (Lk.none, 46)
            | some b => if (lparse b).2 ≠ 0 then (Lk.none, (lparse b).2) else if decide ((lparse b).1.v = 0) ≠ decide ((x :: r).head? = some 81) then (Lk.none, 41) else ((lparse b).1, 0)) =
          (if (x :: r).head? ≠ some 81 ∧ (x :: r).head? ≠ some 102 ∧ (x :: r).head? ≠ some 98 ∧ (x :: r).head? ≠ some 122 then (Lk.none, 45) else match ltake (x :: r) with
            | none => (Lk.none, 46)
            | some (v, b) => if (lparse b).2 ≠ 0 then (Lk.none, (lparse b).2) else if (lparse b).1.v ≠ v then (Lk.none, 41) else ((lparse b).1, 0)) := by
        intro bb t v q e1 e2 e3 e4 e5
        rw [if_neg e5, e1, e2, e4]
        rw [if_neg (by simp)]
        simp only
        cases hrow : rowd bb t with
        | none => rfl
        | some b => exact key b v q (rowd_byte hrow) e3
      by_cases h81 : x = 81
      · subst h81
        exact main b58 (81 :: r) 0 true rfl rfl rfl (by rw [rowd58]; rfl) (by simp)
      · by_cases h102 : x = 102
        · subst h102
          exact main b16 r 1 false rfl rfl rfl (by rw [rowd16]; rfl) (by simp)
        · by_cases h98 : x = 98
          · subst h98
            exact main b32 r 1 false rfl rfl rfl (by rw [rowd32]; rfl) (by simp)
          · by_cases h122 : x = 122
            · subst h122
              exact main b58 r 1 false rfl rfl rfl (by rw [rowd58]; rfl) (by simp)
            · have e : spl (x :: r) = (b0, r, false) := by
                simp only [spl]
                rw [if_neg h81, if_neg h102, if_neg h98, if_neg h122]
              rw [e, if_pos rfl, if_pos (by simp [h81, h102, h98, h122])]
theorem spl_ok {s : List Nat} (h : (spl s).2.2 = true) : Bok (spl s).1 := by
  cases s with
  | nil => simp [spl] at h
  | cons x r =>
    simp only [spl] at h ⊢
    split
    · exact bok58
    · split
      · exact bok16
      · split
        · exact bok32
        · split
          · exact bok58
          · rename_i h1 h2 h3 h4
            rw [if_neg h1, if_neg h2, if_neg h3, if_neg h4] at h
            cases h
theorem spl_cons {s : List Nat} (h : (spl s).2.2 = true) : ∃ x r, s = x :: r := by
  cases s with
  | nil => simp [spl] at h
  | cons x r => exact ⟨x, r, rfl⟩
theorem spl_len (s : List Nat) : (spl s).2.1.length ≤ s.length := by
  cases s with
  | nil => simp [spl]
  | cons x r =>
    simp only [spl]
    repeat' split
    all_goals simp
theorem spl_byte {s : List Nat} (h : ∀ x ∈ s, x < 256) : ∀ x ∈ (spl s).2.1, x < 256 := by
  cases s with
  | nil => simp [spl]
  | cons x r =>
    have hr : ∀ y ∈ r, y < 256 := fun y hy => h y (List.mem_cons_of_mem _ hy)
    simp only [spl]
    repeat' split
    all_goals first | exact h | exact hr
end
section
open Go.RowKit Go

end
section
open Go.RowKit Go

end
section
open Go.RowKit Go
theorem lof_lkb {c : Nat} (b : List Nat) (hc : c < 18446744073709551616) : Lkb (lof c b).1 := by
  unfold lof
  split
  · exact ⟨hc, by simp, sha_byte b, by simp only [sha_len]; decide⟩
  · exact ⟨by simp [Lk.none], by simp [Lk.none], by simp [Lk.none], by simp [Lk.none]⟩
end
section
open Go.RowKit Go
/-- The link that begun makes. -/
def L0 : Lk := ⟨1, 85, 18, sha []⟩
theorem L0_lok : lok L0 := .inr ⟨rfl, by decide, .inl ⟨rfl, sha_len []⟩⟩
theorem L0_lkb : Lkb L0 := ⟨by decide, by decide, sha_byte [], by show (sha []).length ≤ _; rw [sha_len]; decide⟩
theorem L0_of : lof 85 [] = (L0, 0) := rfl
theorem L0_row : lrow L0 = lbytes L0 := by unfold lrow; rw [if_pos L0_lok]
theorem L0_blen : (lbytes L0).length = 36 := by
  have e : lbytes L0 = 1 :: digs 9 85 ++ (18 :: (sha []).length :: sha []) := rfl
  rw [e]
  have e2 : digs 9 85 = [85] := by decide
  rw [e2]
  simp [sha_len]
theorem L0_text : lttx L0 = (ltext L0, 0) := by unfold lttx; rw [if_pos L0_lok]
theorem L0_tx : ltext L0 = 98 :: of32 (lbytes L0) := rfl
theorem L0_tlen : (ltext L0).length = 59 := by
  rw [L0_tx, List.length_cons]
  unfold of32 encW
  rw [List.length_map, grp_len (by decide) _ _ (Nat.le_refl _), List.length_append, flat_len, List.length_replicate, L0_blen]
theorem L0_tbyte : ∀ x ∈ ltext L0, x < 256 := by
  have h := btext_byte b32 (lbytes L0)
  rw [btext32] at h
  intro x hx
  rw [L0_tx] at hx
  rcases List.mem_cons.1 hx with e | e
  · omega
  · exact h x e
theorem L0_parse : lparse (lbytes L0) = (L0, 0) := lparse_bytes L0_lok
theorem L0_ptext : lparsetext (ltext L0) = (L0, 0) := lparsetext_text L0_lok L0_lkb.d
theorem lk0_no : ¬ lok Lk.none := by
  rintro (h | h)
  · exact absurd h.2.1 (by decide)
  · exact absurd h.1 (by decide)
theorem lk0_lkb : Lkb Lk.none := ⟨by decide, by decide, by simp [Lk.none], by simp [Lk.none]⟩
theorem nstr_at {xs : List Nat} (h : ∀ x ∈ xs, x < 256) (k : Nat) (hk : k < (nstr xs).size) : (nstr xs)[k].toNat = xs.getD k 0 := by
  rw [← sl_at (nstr xs) k hk, sl_nstr h]
end
end Go.Proofs.YtibcepokeaaoiabDoor
