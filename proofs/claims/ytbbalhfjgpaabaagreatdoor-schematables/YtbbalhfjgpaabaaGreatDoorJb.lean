import Derived.Test.YtbbalhfjgpaabaaGreatDoorJa
import Derived.Laws.CopyRow
import Derived.Laws.ResultCell
import Derived.Deep.QuietTactic
import Derived.Laws.StructEq
import Derived.SliceStrings
import Derived.Lib.SmallJoins
import Derived.Great.BuildSlice
import Derived.Great.FillDense
import Derived.Maps.AppendAt
import Derived.LaidLaws
import Derived.Handed
import Derived.Lib.LaidTab
import Derived.Laws.MakeOwn
import Derived.Lib.AppendZerosOnto
import Derived.Lib.SliceRun
import Derived.Laws.Concat
import Derived.Lib.BytesEntry
import Derived.Laws.Externs
import Derived.Test.YtbbalhfjgpaabaaGreatDoorSlav
import Derived.Maps.OwnSet
import Derived.Maps.OwnOps
namespace Go.Proofs.YtbbalhfjgpaabaaGreatDoor
section
open Go.RowKit
structure Lnt (w : World) (base g cap : Nat) (xs : List Nat) : Prop where
  own : w.ownsRow base 5 1 (.slice (some ⟨g, 0, none⟩) (xs.length + 70) cap) (xs.length + 70) (bv (xs ++ marks))
  byte : ∀ x ∈ xs, x < 256
  len : xs.length ≤ 140737488351232
end
section
open Go.RowKit Go

end
section
open Go.RowKit Go

end
section
open Go.RowKit Go

end
section
open Go.RowKit Go
structure Lk where
  v : Int
  c : Nat
  h : Nat
  d : List Nat
def okd (h : Nat) (d : List Nat) : Prop := (h = 18 ∧ d.length = 32) ∨ (h = 0 ∧ d.length ≤ 64)
instance (h : Nat) (d : List Nat) : Decidable (okd h d) := inferInstanceAs (Decidable (_ ∨ _))
def lok (l : Lk) : Prop := (l.v = 0 ∧ l.c = 112 ∧ l.h = 18 ∧ l.d.length = 32) ∨ (l.v = 1 ∧ l.c < 9223372036854775808 ∧ okd l.h l.d)
instance (l : Lk) : Decidable (lok l) := inferInstanceAs (Decidable (_ ∨ _))
end
section
open Go.RowKit Go

end
section
open Go.RowKit Go
def look : List Nat → Nat → Option Nat
  | [], _ => none
  | x :: t, c => if x = c then some 0 else (look t c).map (· + 1)
def looks (t : List Nat) : List Nat → Option (List Nat)
  | [] => some []
  | c :: s => (look t c).bind fun i => (looks t s).map (i :: ·)
end
section
open Go.RowKit Go

end
section
open Go.RowKit Go
theorem below_alloc4 (w : World) (o : Obj) : Below w.heap.size w (w.alloc o) := (Below.refl _ _).alloc (Nat.le_refl _) _
end
section
open Go.RowKit Go

end
section
open Go.RowKit Go

end
section
open Go.RowKit Go

end
section
open Go.RowKit Go

end
section
open Go.RowKit Go
def zlk : Array Value := #[.int .i64 0, .int .u64 0, .int .u64 0, .string ⟨#[]⟩]
structure Fq (w wx : World) (R L : Nat) (lv : Array Value) : Prop where
  r : wx.heap[R]? = some (.cells zlk 164 (0, 0))
  l : wx.heap[L]? = some (.cells lv 164 (0, 0))
  b : Below w.heap.size w wx
  rb : w.heap.size ≤ R
  lb : w.heap.size ≤ L
  ne : R ≠ L
theorem Fq.below {w wx wy : World} {R L : Nat} {lv : Array Value} (h : Fq w wx R L lv) (hb : Below wx.heap.size wx wy) : Fq w wy R L lv :=
  ⟨(hb.block R (blk_lt h.r)).trans h.r, (hb.block L (blk_lt h.l)).trans h.l, h.b.trans (hb.mono h.b.size), h.rb, h.lb, h.ne⟩
end
section
open Go.RowKit Go

end
section
open Go.RowKit Go

end
section
open Go.RowKit Go

end
section
open Go.RowKit Go

end
section
open Go.RowKit Go
theorem sl_nstr {xs : List Nat} (h : ∀ x ∈ xs, x < 256) : sl (nstr xs) = xs := by
  have key : ∀ l : List Nat, (∀ x ∈ l, x < 256) → (nstr l).data.toList.map UInt8.toNat = l := by
    intro l hl
    simp only [nstr, strOfNums_data, List.map_map]
    conv => rhs; rw [← List.map_id l]
    apply List.map_congr_left
    intro x hx
    have := hl x hx
    simp; omega
  exact key xs h
end
section
open Go.RowKit Go
structure Rg (tt : Nat) (B out R : List Nat) : Prop where
  e : B = out.flatMap (bitsW tt) ++ R
  o : ∀ x ∈ out, x < 2 ^ tt
  r : ∀ x ∈ R, x < 2
theorem Rg.start (tt : Nat) : Rg tt [] [] [] := ⟨rfl, by simp, by simp⟩
theorem Rg.take {tt : Nat} {B out R : List Nat} (h : Rg tt B out R) (hl : tt ≤ R.length) : Rg tt B (out ++ [valB 2 (R.take tt)]) (R.drop tt) := by
  have hl2 : (R.take tt).length = tt := by rw [List.length_take]; omega
  have hb : ∀ x ∈ R.take tt, x < 2 := fun x hx => h.r x (List.mem_of_mem_take hx)
  refine ⟨?_, ?_, fun x hx => h.r x (List.mem_of_mem_drop hx)⟩
  · have e := bitsW_valB (R.take tt) hb
    rw [hl2] at e
    rw [List.flatMap_append, List.flatMap_singleton, e, List.append_assoc, List.take_append_drop]
    exact h.e
  · intro x hx
    rcases List.mem_append.1 hx with hx | hx
    · exact h.o x hx
    · simp only [List.mem_singleton] at hx
      subst hx
      have := valB_lt (b := 2) (by decide) hb
      rwa [hl2] at this
end
section
open Go.RowKit Go
theorem nstr_sl (s : ByteArray) : nstr (sl s) = s := by
  obtain ⟨⟨l⟩⟩ := s
  have e : nstr (sl ⟨⟨l⟩⟩) = ⟨(nstr (sl ⟨⟨l⟩⟩)).data⟩ := rfl
  rw [e]
  congr 1
  apply Array.ext'
  simp only [nstr, sl, strOfNums_data, List.map_map]
  conv => rhs; rw [← List.map_id l]
  apply List.map_congr_left
  intro x _
  simp
theorem nstr_size {xs : List Nat} (h : ∀ x ∈ xs, x < 256) : (nstr xs).size = xs.length := by rw [← sl_len, sl_nstr h]
structure Lkb (l : Lk) : Prop where
  c : l.c < 18446744073709551616
  h : l.h < 18446744073709551616
  d : ∀ x ∈ l.d, x < 256
  n : l.d.length ≤ 9223372036854775807
theorem Lkb.size {l : Lk} (h : Lkb l) : (nstr l.d).size = l.d.length := nstr_size h.d
theorem lk_ext {a b : Lk} : a = b ↔ a.v = b.v ∧ a.c = b.c ∧ a.h = b.h ∧ a.d = b.d := by
  constructor
  · rintro rfl
    exact ⟨rfl, rfl, rfl, rfl⟩
  · obtain ⟨_, _, _, _⟩ := a
    obtain ⟨_, _, _, _⟩ := b
    rintro ⟨h1, h2, h3, h4⟩
    simp only at h1 h2 h3 h4
    subst h1 h2 h3 h4
    rfl
instance : DecidableEq Lk := fun a b => decidable_of_iff _ (lk_ext (a := a) (b := b)).symm
theorem wpList_wanted {P : Program} {ops : Array Oper} {Q : Exit → Act → World → Prop} {a : Act} {w : World} {rest : List Oper} {o : Oper} (hw : Region.wanted o (yielded ops a.tmps) = true)
    (h : ∀ K : Act → World → Prop, (∀ a w, wpList P ops Q rest a w → K a w) → o.wp P a w K Q) : wpList P ops Q (o :: rest) a w := wpList_step fun K hK => by rw [if_pos hw]; exact h K hK
end
section
open Go.ChangeShapes Go.WideShapes Go.ChangeAt Go.RowKit Go.Deep Go.Joins Go
inductive Tv where
  | mk (k : Int) (f g : Bool) (n b : Nat) (s : ByteArray) (y : List Nat) (l : Lk) (ks : List ByteArray) (is : List Tv)
def Tv.k : Tv → Int | .mk k _ _ _ _ _ _ _ _ _ => k
def Tv.f : Tv → Bool | .mk _ f _ _ _ _ _ _ _ _ => f
def Tv.g : Tv → Bool | .mk _ _ g _ _ _ _ _ _ _ => g
def Tv.n : Tv → Nat | .mk _ _ _ n _ _ _ _ _ _ => n
def Tv.b : Tv → Nat | .mk _ _ _ _ b _ _ _ _ _ => b
def Tv.s : Tv → ByteArray | .mk _ _ _ _ _ s _ _ _ _ => s
def Tv.y : Tv → List Nat | .mk _ _ _ _ _ _ y _ _ _ => y
def Tv.l : Tv → Lk | .mk _ _ _ _ _ _ _ l _ _ => l
def Tv.ks : Tv → List ByteArray | .mk _ _ _ _ _ _ _ _ ks _ => ks
def Tv.is : Tv → List Tv | .mk _ _ _ _ _ _ _ _ _ is => is
def vcs (t : Tv) (vy vk vi : Value) : Array Value :=
  #[.int .i64 t.k, .bool t.f, .bool t.g, .int .u64 (t.n : Nat), .int .u64 (t.b : Nat), .string t.s, vy, .int .i64 t.l.v, .int .u64 (t.l.c : Nat), .int .u64 (t.l.h : Nat), .string (nstr t.l.d), vk, vi]
structure SSl (w : World) (v : Value) (ks : List ByteArray) : Prop where
  form : ∃ a cap, v = .slice a ks.length cap ∧ (ks.length ≤ cap ∧ (a = none → cap = 0)) ∧ (ks = [] ∨ ∃ b off, a = some ⟨b, off, none⟩ ∧ ∀ j s, ks[j]? = some s → w.cell? ⟨b, off + j, none⟩ = some (.string s))
  max : ks.length ≤ 140737488351232
  size : ∀ s ∈ ks, s.size ≤ 140737488351232
theorem SSl.move {w w' : World} {v : Value} {ks : List ByteArray} (h : SSl w v ks) (hm : ∀ p u, w.cell? p = some u → w'.cell? p = some u) : SSl w' v ks := by
  obtain ⟨⟨a, c, hv, hn, hc⟩, h1, h2⟩ := h
  refine ⟨⟨a, c, hv, hn, ?_⟩, h1, h2⟩
  rcases hc with hc | ⟨b, off, ha, hc⟩
  · exact .inl hc
  · exact .inr ⟨b, off, ha, fun j s hj => hm _ _ (hc j s hj)⟩
inductive Tin (w : World) : Tv → Array Value → Prop
  | mk (t : Tv) (vy vk : Value) (a : Option Addr) (cap : Nat) (cs : Nat → Array Value) (hn : t.n < 18446744073709551616) (hb : t.b < 18446744073709551616) (hs : t.s.size ≤ 140737488351232) (hy : BSl w vy t.y) (hyl : t.y.length ≤ 140737488351232) (hl : Lkb t.l) (hld : t.l.d.length ≤ 140737488351232) (hk : SSl w vk t.ks)
      (hc : t.is.length ≤ cap ∧ (a = none → cap = 0)) (hm : t.is.length ≤ 140737488351232) (hi : ∀ i u, t.is[i]? = some u → Tin w u (cs i))
      (ha : t.is = [] ∨ ∃ b off, a = some ⟨b, off, none⟩ ∧ ∀ i, i < t.is.length → ∀ j u, (cs i)[j]? = some u → w.cell? ⟨b, off + i * 13 + j, none⟩ = some u) : Tin w t (vcs t vy vk (.slice a t.is.length cap))
theorem Tin.move {w w' : World} {t : Tv} {cs : Array Value} (h : Tin w t cs) (hm : ∀ p u, w.cell? p = some u → w'.cell? p = some u) : Tin w' t cs := by
  induction h with
  | mk t vy vk a cap cs hn hb hs hy hyl hl hld hk hc hmm hi ha ih =>
    refine Tin.mk t vy vk a cap cs hn hb hs (hy.move hm) hyl hl hld (hk.move hm) hc hmm ih ?_
    rcases ha with ha | ⟨b, off, e, ha⟩
    · exact .inl ha
    · exact .inr ⟨b, off, e, fun i hi j u hu => hm _ _ (ha i hi j u hu)⟩
structure VSl (w : World) (v : Value) (is : List Tv) : Prop where
  form : ∃ a cap, v = .slice a is.length cap ∧ (is.length ≤ cap ∧ (a = none → cap = 0)) ∧ (is = [] ∨ ∃ b off, a = some ⟨b, off, none⟩ ∧ ∀ i t, is[i]? = some t → ∃ cs, Tin w t cs ∧ ∀ j u, cs[j]? = some u → w.cell? ⟨b, off + i * 13 + j, none⟩ = some u)
  max : is.length ≤ 140737488351232
theorem VSl.move {w w' : World} {v : Value} {is : List Tv} (h : VSl w v is) (hm : ∀ p u, w.cell? p = some u → w'.cell? p = some u) : VSl w' v is := by
  obtain ⟨⟨a, c, hv, hn, hc⟩, h1⟩ := h
  refine ⟨⟨a, c, hv, hn, ?_⟩, h1⟩
  rcases hc with hc | ⟨b, off, ha, hc⟩
  · exact .inl hc
  · exact .inr ⟨b, off, ha, fun i t hi => by
      obtain ⟨cs, h1, h2⟩ := hc i t hi
      exact ⟨cs, h1.move hm, fun j u hu => hm _ _ (h2 j u hu)⟩⟩
structure Tbd (t : Tv) : Prop where
  n : t.n < 18446744073709551616
  b : t.b < 18446744073709551616
  s : t.s.size ≤ 140737488351232
  y : t.y.length ≤ 140737488351232
  l : Lkb t.l
  d : t.l.d.length ≤ 140737488351232
end
section
open Go.RowKit Go

end
section
open Go.RowKit Go

end
section
open Go.RowKit Go
def sv (ks : List ByteArray) : List Value := ks.map fun s => .string s
theorem sv_len (ks : List ByteArray) : (sv ks).length = ks.length := by simp [sv]
theorem sv_app (a b : List ByteArray) : sv (a ++ b) = sv a ++ sv b := by simp [sv]
theorem sv_get {ks : List ByteArray} {j : Nat} {s : ByteArray} (h : ks[j]? = some s) : (sv ks)[j]? = some (.string s) := by simp [sv, h]
theorem sv_one (ks : List ByteArray) : ∀ u ∈ sv ks, u.oneCell' = true := by
  intro u hu
  simp only [sv, List.mem_map] at hu
  obtain ⟨_, _, rfl⟩ := hu
  rfl
theorem info9_ex : ∃ i, Tryz.prog.info? 9 = some i ∧ i.zero = some (.string ⟨#[]⟩) ∧ i.size = 1 ∧ i.bytes = 16 := by
  have h : (Tryz.prog.info? 9).map (fun i => (i.zero, i.size, i.bytes)) = some (some (.string ⟨#[]⟩), 1, 16) := by kernel_rfl
  cases hi : Tryz.prog.info? 9 with
  | none => rw [hi] at h; cases h
  | some i =>
    rw [hi] at h
    injection h with h
    injection h with h1 h2
    injection h2 with h2 h3
    exact ⟨i, rfl, h1, h2, h3⟩
set_option maxRecDepth 1000000 in
theorem append_ssl {ops : Array Oper} {rest : List Oper} {o : Oper} {a : Act} {Q : Exit → Act → World → Prop} {w : World} (hgd : o.guard = none) (s x : Operand)
    (ho : o.op = .call { callee := .builtin .append, args := #[s, x], argTypes := #[23, 23] }) (B : Nat) (v : Value) (n : Nat) (ds : List ByteArray) (hs : a.eval s = v) (hown : w.ownsRow B 9 1 v n (sv ds))
    (u : Value) (es : List ByteArray) (hx : a.eval x = u) (hu : SSl w u es) (hlen : n + es.length < 1099511627776) (hbase : B ≤ w.heap.size)
    (h : ∀ v' w', w'.ownsRow B 9 1 v' (n + es.length) (sv (ds ++ es)) → w.grownBy w' v.ownBlock → wpList Tryz.prog ops Q rest (a.put o.dst v') w') : wpList Tryz.prog ops Q (o :: rest) a w := by
  obtain ⟨i, hi, hz0, hz1, hz2⟩ := info9_ex
  obtain ⟨⟨ad, cap, rfl, hn, hc⟩, hmax, _⟩ := hu
  cases ad with
  | none =>
    have hc0 := hn.2 rfl
    have he : es = [] := List.length_eq_zero_iff.1 (by omega)
    subst hc0
    subst he
    refine wpList_append_own_none hgd s x 23 ho B 9 i 1 Tryz.underlying23 hi v n (sv ds) hs hown hx (h v w ?_ ⟨rfl, rfl, rfl, Nat.le_refl _, fun _ _ _ => rfl⟩)
    simpa using hown
  | some ad =>
    refine wpList_append_own_at w hgd s x 23 ho B 9 i (.string ⟨#[]⟩) 1 16 Tryz.underlying23 hi hz0 hz1 hz2 rfl (by decide) v n (sv ds) hs hown ad es.length cap (sv es) hx (by rw [sv_len, Nat.mul_one]) (fun j u hu => ?_) (sv_one es) (by unfold maxLen; omega) (by omega) hbase fun v' w' h1 h2 _ _ => h v' w' (by rw [sv_app]; exact h1) h2
    have hjl : j < es.length := by
      rcases Nat.lt_or_ge j es.length with h | h
      · exact h
      · rw [List.getElem?_eq_none (by rw [sv_len]; exact h)] at hu
        cases hu
    rcases hc with hc | ⟨b, off, e, hc⟩
    · rw [hc] at hjl
      simp at hjl
    · injection e with e
      subst e
      rw [sv_get (List.getElem?_eq_getElem hjl)] at hu
      injection hu with hu
      rw [addr_add, hc j _ (List.getElem?_eq_getElem hjl), hu]
theorem one_ssl (w : World) (s : ByteArray) (hs : s.size ≤ 140737488351232) : SSl (w.alloc (.cells #[.string s] 9)) (.slice (some ⟨w.heap.size, 0, none⟩) 1 1) [s] := by
  refine ⟨⟨_, 1, rfl, ⟨by simp, fun h => by cases h⟩, .inr ⟨w.heap.size, 0, rfl, fun j t hj => ?_⟩⟩, by simp, by simpa using hs⟩
  match j, hj with
  | 0, hj =>
    simp at hj
    subst hj
    exact blk_cell (heap_alloc_new w _) rfl
  | j + 1, hj => simp at hj
def mk9 : ByteArray := ⟨#[109, 97, 114, 107]⟩
structure Lts (w : World) (base : Nat) (v : Value) (ks : List ByteArray) : Prop where
  own : ∃ g cap, v = .slice (some ⟨g, 0, none⟩) ks.length cap ∧ w.ownsRow base 9 1 (.slice (some ⟨g, 0, none⟩) (ks.length + 9) cap) (ks.length + 9) (sv (ks ++ List.replicate 9 mk9))
  len : ks.length ≤ 100000
  size : ∀ s ∈ ks, s.size ≤ 140737488351232
set_option maxRecDepth 1000000 in
set_option maxHeartbeats 400000 in
theorem lendTexts_any (w : World) (v : Value) (ks : List ByteArray) (hsl : SSl w v ks) (hlen : ks.length ≤ 100000) :
    Calls Tryz.prog 47 #[v] w fun e w' => ∃ v', e = .returned v' ∧ Lts w' w.heap.size v' ks ∧ Below w.heap.size w w' := by
  obtain ⟨i9, hi, hz0, hz1, hz2⟩ := info9_ex
  have HSZ := hide hsl.size
  have HSL := hide hsl
  obtain ⟨⟨a, cap, rfl, hn, hc⟩, hmax, hb⟩ := hsl
  clear hn hc hmax hb
  obtain ⟨w0, hmk, hown0, hgr0⟩ := run_make_own (P := Tryz.prog) w w.heap.size 23 9 i9 (.string ⟨#[]⟩) 1 Tryz.underlying23 hi hz0 hz1 .i64 .i64 (ks.length + 9) (by rw [hz2]; omega) (by unfold maxLen; omega) (Nat.le_refl _)
  have ec : ((ks.length + 9 : Nat) : Int) = (ks.length : Int) + 9 := by omega
  rw [ec] at hmk
  clear ec hi hz0 hz1 hz2
  have hbel0 : Below w.heap.size w w0 := (Below.refl _ _).grown hgr0 (Nat.le_refl _) (fun _ h => by cases h)
  have HSL0 := hide (HSL.out.move (keep_below hbel0))
  generalize hB : w.heap.size = B at *
  have HBe := hide hB
  clear hB hgr0
  have HO0 : Hid (w0.ownsRow B 9 1 _ 0 (sv [])) := hown0
  clear hown0
  have HBL0 := hide hbel0
  clear hbel0
  go_enter Tryz.func47, Tryz.ntmps47
  go_wp2_with (at_builtin; refine append_ssl rfl _ _ rfl B _ 0 [] rfl HO0.out _ ks rfl HSL0.out ?b1 ?b2 ?_)
  case b1 => omega
  case b2 => have := HBL0.out.size; have := HBe.out; omega
  intro v1 w1 hown1 hgr1
  have hbel1 : Below B w w1 := HBL0.out.grown hgr1 (by have := HBL0.out.size; have := HBe.out; omega) (fun q hq => (HO0.out.lt q hq).1)
  clear hgr1 HO0 HBL0 HSL0 hmk
  have HO1 := hide hown1
  clear hown1
  have HBL1 := hide hbel1
  clear hbel1
  go_wp2
  go_loopw [3, 4] (fun v i wr => ∃ k : Nat, k ≤ 9 ∧ i = .int .i64 k ∧ Hid (wr.ownsRow B 9 1 v (ks.length + k) (sv (ks ++ List.replicate k mk9))) ∧ Hid (Below B w wr)) (fun _ i _ => 9 - (intOf i).toNat)
  case atStart => exact ⟨0, by omega, rfl, by simpa using HO1, HBL1⟩
  case round =>
    obtain ⟨k, hk, rfl, HO, HBL⟩ := hrel
    clear HO1 HBL1
    by_cases hlt : k < 9
    · have hlt' : (k : Int) < 9 := by omega
      have HR : Hid (ks ++ List.replicate (k + 1) mk9 = ks ++ (List.replicate k mk9 ++ [mk9])) := by show _ = _; rw [List.replicate_succ']
      go_wp2_with (at_builtin; refine append_ssl rfl _ _ rfl B _ (ks.length + k) (ks ++ List.replicate k mk9) rfl (HO.out.alloc _) _ [mk9] rfl (one_ssl _ mk9 (by decide)) ?b1 ?b2 ?_)
      case b1 => simp; omega
      case b2 => have := HBL.out.size; have := HBe.out; simp; omega
      intro v2 w2 hown2 hgr2
      have hbel2 : Below B w w2 := (HBL.out.alloc (by have := HBL.out.size; have := HBe.out; omega) _).grown hgr2 (by have := HBL.out.size; have := HBe.out; simp; omega) (fun q hq => (HO.out.lt q hq).1)
      have HO2 : Hid (w2.ownsRow B 9 1 v2 (ks.length + (k + 1)) (sv (ks ++ List.replicate (k + 1) mk9))) := by show World.ownsRow _ _ _ _ _ _ _; rw [HR.out]; exact hown2
      have HBL2 := hide hbel2
      clear hgr2 hown2 hbel2
      go_wp2
      go_roundw
      case rel => exact ⟨k + 1, by omega, by go_num, HO2, HBL2⟩
      case measure => simp [intOf]; omega
    · have hlt' : ¬ (k : Int) < 9 := by omega
      have hk70 : k = 9 := by omega
      have ho := HO.out
      rw [hk70] at ho
      rcases ho.2 with ⟨_, h0⟩ | ⟨g, cap', cur, hv, _, hg, h1, h2, h3, h4⟩
      · omega
      subst hv
      have HO2 := hide ho
      have h2' : ks.length ≤ cap' := by omega
      clear ho h3 h4 hg HO hlt cur
      subst hk70
      go_wp2
      go_ret
      exact ⟨_, rfl, ⟨⟨g, cap', rfl, HO2.out⟩, hlen, HSZ.out⟩, HBL.out⟩
end
section
open Go.RowKit Go
theorem Lts.cell {w : World} {base g cap : Nat} {ks : List ByteArray} (h : w.ownsRow base 9 1 (.slice (some ⟨g, 0, none⟩) (ks.length + 9) cap) (ks.length + 9) (sv (ks ++ List.replicate 9 mk9))) : (∀ j s, ks[j]? = some s → w.cell? ⟨g, j, none⟩ = some (.string s)) ∧ (∀ j, j < 9 → w.cell? ⟨g, ks.length + j, none⟩ = some (.string mk9)) ∧ ks.length + 9 ≤ cap := by
  refine ⟨fun j s hj => ?_, fun j hj => ?_, ?_⟩
  · refine (own_cell h (sv_get ?_)).1
    rw [List.getElem?_append_left (List.getElem?_eq_some_iff.1 hj).1]
    exact hj
  · refine (own_cell h (sv_get ?_)).1
    rw [List.getElem?_append_right (by omega), Nat.add_sub_cancel_left, List.getElem?_replicate_of_lt hj]
  · rcases h.2 with ⟨hv, _⟩ | ⟨g', cap', cur, hv, _, _, h1, _⟩
    · cases hv
    · injection hv with _ _ e
      subst e
      exact h1
end
section
open Go.RowKit Go
def vfl (l : List (Array Value)) : List Value := l.flatMap (·.toList)
def mv : Array Value := #[.int .i64 777, .bool false, .bool false, .int .u64 0, .int .u64 0, .string ⟨#[]⟩, .slice none 0 0, .int .i64 0, .int .u64 0, .int .u64 0, .string ⟨#[]⟩, .slice none 0 0, .slice none 0 0]
inductive Ltv (w : World) (lo hi : Nat) : Tv → Array Value → Prop
  | mk (t : Tv) (gy cy gk ck gi ci : Nat) (L : List (Array Value)) (hbd : Tbd t) (hy : Lnt w lo gy cy t.y) (hgy : gy < hi) (hk : w.ownsRow lo 9 1 (.slice (some ⟨gk, 0, none⟩) (t.ks.length + 9) ck) (t.ks.length + 9) (sv (t.ks ++ List.replicate 9 mk9))) (hgk : gk < hi) (hkl : t.ks.length ≤ 100000) (hks : ∀ s ∈ t.ks, s.size ≤ 140737488351232)
      (hv : w.ownsRow lo 172 13 (.slice (some ⟨gi, 0, none⟩) (t.is.length + 9) ci) (t.is.length + 9) (vfl (L ++ List.replicate 9 mv))) (hgi : gi < hi) (hil : t.is.length ≤ 100000) (hL : L.length = t.is.length) (h13 : ∀ c ∈ L, c.size = 13) (hcs : ∀ (i : Nat) (u : Tv) (c : Array Value), t.is[i]? = some u → L[i]? = some c → Ltv w lo hi u c) :
      Ltv w lo hi t (vcs t (.slice (some ⟨gy, 0, none⟩) t.y.length cy) (.slice (some ⟨gk, 0, none⟩) t.ks.length ck) (.slice (some ⟨gi, 0, none⟩) t.is.length ci))
theorem Ltv.size {w : World} {lo hi : Nat} {t : Tv} {c : Array Value} (h : Ltv w lo hi t c) : c.size = 13 := by
  cases h
  rfl
theorem Lnt.mono {w : World} {b b' g cap : Nat} {xs : List Nat} (h : Lnt w b g cap xs) (hb : b' ≤ b) : Lnt w b' g cap xs := ⟨own_mono h.own hb, h.byte, h.len⟩
theorem Ltv.mono {w : World} {lo hi lo' hi' : Nat} {t : Tv} {c : Array Value} (h : Ltv w lo hi t c) (h1 : lo' ≤ lo) (h2 : hi ≤ hi') : Ltv w lo' hi' t c := by
  induction h with
  | mk t gy cy gk ck gi ci L hbd hy hgy hkk hgk hkl hks hv hgi hil hL h13 _ ih =>
    exact Ltv.mk t gy cy gk ck gi ci L hbd (hy.mono h1) (by omega) (own_mono hkk h1) (by omega) hkl hks (own_mono hv h1) (by omega) hil hL h13 ih
end
section
open Go.RowKit Go
theorem SSl.own {w : World} {base n : Nat} {v : Value} {ks : List ByteArray} (h : w.ownsRow base 9 1 v n (sv ks)) (hn : n = ks.length) (hm : ks.length ≤ 140737488351232) (hs : ∀ s ∈ ks, s.size ≤ 140737488351232) : SSl w v ks := by
  subst hn
  rcases id h.2 with ⟨hv, he⟩ | ⟨g, cap, cur, hv, _, _, h1, _⟩
  · subst hv
    have e : ks = [] := List.length_eq_zero_iff.1 he
    subst e
    exact ⟨⟨none, 0, rfl, ⟨by simp, fun _ => rfl⟩, .inl rfl⟩, hm, hs⟩
  · subst hv
    refine ⟨⟨_, cap, rfl, ⟨by omega, fun h => by cases h⟩, .inr ⟨g, 0, rfl, fun j s hj => ?_⟩⟩, hm, hs⟩
    rw [Nat.zero_add]
    exact (own_cell h (sv_get hj)).1
end
section
open Go.RowKit Go
inductive Ntv (w : World) (lo hi : Nat) : Tv → Array Value → Prop
  | mk (t : Tv) (vy vk vi : Value) (L : List (Array Value)) (hbd : Tbd t) (hyb : ∀ x ∈ t.y, x < 256) (hy : w.ownsRow lo 5 1 vy t.y.length (bv t.y)) (hgy : ∀ q, vy.ownBlock = some q → q < hi) (hk : w.ownsRow lo 9 1 vk t.ks.length (sv t.ks)) (hgk : ∀ q, vk.ownBlock = some q → q < hi) (hkl : t.ks.length ≤ 140737488351232) (hks : ∀ s ∈ t.ks, s.size ≤ 140737488351232)
      (hv : w.ownsRow lo 172 13 vi t.is.length (vfl L)) (hgi : ∀ q, vi.ownBlock = some q → q < hi) (hil : t.is.length ≤ 140737488351232) (hL : L.length = t.is.length) (h13 : ∀ c ∈ L, c.size = 13) (hcs : ∀ (i : Nat) (u : Tv) (c : Array Value), t.is[i]? = some u → L[i]? = some c → Ntv w lo hi u c) :
      Ntv w lo hi t (vcs t vy vk vi)
theorem Ntv.size {w : World} {lo hi : Nat} {t : Tv} {c : Array Value} (h : Ntv w lo hi t c) : c.size = 13 := by
  cases h
  rfl
theorem Ntv.mono {w : World} {lo hi lo' hi' : Nat} {t : Tv} {c : Array Value} (h : Ntv w lo hi t c) (h1 : lo' ≤ lo) (h2 : hi ≤ hi') : Ntv w lo' hi' t c := by
  induction h with
  | mk t vy vk vi L hbd hyb hy hgy hkk hgk hkl hks hv hgi hil hL h13 _ ih =>
    exact Ntv.mk t vy vk vi L hbd hyb (own_mono hy h1) (fun q hq => Nat.lt_of_lt_of_le (hgy q hq) h2) (own_mono hkk h1) (fun q hq => Nat.lt_of_lt_of_le (hgk q hq) h2) hkl hks (own_mono hv h1) (fun q hq => Nat.lt_of_lt_of_le (hgi q hq) h2) hil hL h13 ih
end
section
open Go.RowKit Go

end
section
open Go.RowKit Go

end
section
open Go.RowKit Go

end
section
open Go.RowKit Go
theorem own_slice {w : World} {B e s n : Nat} {v : Value} {xs : List Value} (h : w.ownsRow B e s v n xs) : ∃ a c, v = .slice a n c := by
  rcases h.2 with ⟨e, h0⟩ | ⟨g, c, cur, e, _⟩
  · exact ⟨none, 0, by rw [e, h0]⟩
  · exact ⟨_, c, e⟩
end
section
open Go.RowKit
def BkP (F : Knd) (J : Nat) (w : World) (base B : Nat) (C : Array Value) (vb vo : Value) (es : List Ent) (a t u : Nat) (l : Value) (w' : World) : Prop :=
  ∃ vb' vo' es' u' C', w'.heap[B]? = some (.cells C' 47 (0, 0)) ∧ Chg (fun k => k = J ∨ k = J + 1 ∨ k = 54 ∨ k = 56) C C' ∧ C'[J]? = some vb' ∧ C'[J + 1]? = some vo' ∧ C'[54]? = some (.int .i64 ((t + 1 : Nat) : Int)) ∧ C'[56]? = some (.int .i64 (u' : Nat)) ∧ Ko F w' base vb' vo' es' a (t + 1) u' ∧ u ≤ u' ∧ u' ≤ 16777216 ∧
    Kp (fun k => k = B ∨ vb.ownBlock = some k ∨ vo.ownBlock = some k ∨ l.ownBlock = some k) w w' ∧ ∀ k, Fut vb' vo' es' k → Fut vb vo es k ∨ l.ownBlock = some k ∨ w.heap.size ≤ k
theorem BkP.full {F : Knd} (hF : F.Ok) {J : Nat} {w wr : World} {base B : Nat} {C : Array Value} {vb vo : Value} {es : List Ent} {a t u : Nat} {l : Value} {n : Nat} {xs : List Value} (hB : w.heap[B]? = some (.cells C 47 (0, 0))) (hJ0 : C[J]? = some vb) (hJ1 : C[J + 1]? = some vo) (h56 : C[56]? = some (.int .i64 (u : Nat))) (hJ : J + 1 < 54) (h57 : C.size = 57) (hK : Ko F w base vb vo es a t u) (hl : w.ownsRow base F.te F.s l n xs)
    (hd : ∀ e ∈ es, ∀ k, e.val.ownBlock = some k → l.ownBlock ≠ some k) (hu : u ≤ 16777216) (hr : wr.heap[B]? = some (.cells (C.setIfInBounds 54 (.int .i64 ((t + 1 : Nat) : Int))) 47 (0, 0))) (hk : Kp (fun k => k = B ∨ l.ownBlock = some k) w wr) : BkP F J w base B C vb vo es a t u l wr := by
  refine ⟨vb, vo, es, u, _, hr, (Chg.set C 54 _).trans (Chg.refl (fun _ => False) _) (fun k e => .inr (.inr (.inl e))) (fun k e => e.elim), ?_, ?_, ?_, ?_, (hK.kp hk (fun k hf e => ?_)).more (by omega) (Nat.le_refl _), Nat.le_refl _, hu, hk.mono (fun k _ e => by rcases e with e | e; exact .inl e; exact .inr (.inr (.inr e))), fun k h => .inl h⟩
  · rw [get_set_ne (by omega)]; exact hJ0
  · rw [get_set_ne (by omega)]; exact hJ1
  · exact get_set (by omega)
  · rw [get_set_ne (by omega)]; exact h56
  · rcases e with e | e
    · exact hK.c.notB hF hB (by rw [← e]; exact hf)
    · rcases hf with h | h | ⟨x, hx, h⟩
      · exact own_apart hK.c.hb hl hF.ne h e
      · exact own_apart hK.c.ho hl (fun e => hF.e3 e.symm) h e
      · exact hd x hx k h e
theorem Kc.marked {F : Knd} (hF : F.Ok) {w wr : World} {base B : Nat} {C : Array Value} {vb vo : Value} {es : List Ent} {t : Nat} {l : Value} {n : Nat} {xs : List Value} (hB : w.heap[B]? = some (.cells C 47 (0, 0))) (hK : Kc F w base vb vo es t) (hl : w.ownsRow base F.te F.s l n xs)
    (hd : ∀ e ∈ es, ∀ k, e.val.ownBlock = some k → l.ownBlock ≠ some k) (hk : Kp (fun k => k = B ∨ l.ownBlock = some k) w wr) : Kc F wr base vb vo es t := hK.kp hk (fun k hf e => by
  rcases e with e | e
  · exact hK.notB hF hB (by rw [← e]; exact hf)
  · rcases hf with h | h | ⟨x, hx, h⟩
    · exact own_apart hK.hb hl hF.ne h e
    · exact own_apart hK.ho hl (fun e => hF.e3 e.symm) h e
    · exact hd x hx k h e)
theorem BkP.kept {F : Knd} {J : Nat} {w w2 w4 w6 : World} {base B : Nat} {C : Array Value} {vb vo v3 v5 : Value} {es : List Ent} {a t u U : Nat} {l : Value} {n : Nat} (hJ : J + 1 < 54) (h57 : C.size = 57) (hK : Ko F w base vb vo es a t u)
    (hd : ∀ e ∈ es, ∀ k, e.val.ownBlock = some k → l.ownBlock ≠ some k) (hn : n < 68719476736) (hu : U ≤ 16777216) (hU : u + F.cost ≤ U)
    (hk2 : Kp (fun k => k = B ∨ l.ownBlock = some k) w w2) (hk4 : Kp (fun q => q = B ∨ vb.ownBlock = some q) w2 w4) (hk6 : Kp (fun q => q = B ∨ vo.ownBlock = some q) w4 w6)
    (hB6 : w6.heap[B]? = some (.cells ((((C.setIfInBounds 54 (.int .i64 ((t + 1 : Nat) : Int))).setIfInBounds 56 (.int .i64 (U : Nat))).setIfInBounds J v3).setIfInBounds (J + 1) v5) 47 (0, 0))) (hc : Kc F w6 base v3 v5 (es ++ [⟨l, n, t + 1⟩]) (t + 1))
    (h3 : ∀ q, v3.ownBlock = some q → vb.ownBlock = some q ∨ w.heap.size ≤ q) (h5 : ∀ q, v5.ownBlock = some q → vo.ownBlock = some q ∨ w.heap.size ≤ q) : BkP F J w base B C vb vo es a t u l w6 := by
  refine ⟨v3, v5, es ++ [⟨l, n, t + 1⟩], U, _, hB6, ?_, ?_, ?_, ?_, ?_, hK.add hc hd hn hU, by omega, hu, (((hk2.mono (fun k _ e => by rcases e with e | e; exact .inl e; exact .inr (.inr (.inr e)))).trans hk4 (fun k _ e => by rcases e with e | e; exact .inl e; exact .inr (.inl e))).trans hk6 (fun k _ e => by rcases e with e | e; exact .inl e; exact .inr (.inr (.inl e)))), fun k hf => ?_⟩
  · refine ⟨by simp, fun k hk => ?_⟩
    rw [get_set_ne (fun e => hk (.inr (.inl e))), get_set_ne (fun e => hk (.inl e)), get_set_ne (fun e => hk (.inr (.inr (.inr e)))), get_set_ne (fun e => hk (.inr (.inr (.inl e))))]
  · rw [get_set_ne (by omega), get_set (by simp; omega)]
  · rw [get_set (by simp; omega)]
  · rw [get_set_ne (by omega), get_set_ne (by omega), get_set_ne (by omega), get_set (by omega)]
  · rw [get_set_ne (by omega), get_set_ne (by omega), get_set (by simp; omega)]
  · rcases hf with h | h | ⟨x, hx, h⟩
    · rcases h3 k h with e | e
      · exact .inl (.inl e)
      · exact .inr (.inr e)
    · rcases h5 k h with e | e
      · exact .inl (.inr (.inl e))
      · exact .inr (.inr e)
    · rcases List.mem_append.1 hx with hx | hx
      · exact .inl (.inr (.inr ⟨x, hx, h⟩))
      · simp at hx; subst hx; exact .inr (.inl h)

def tmk (m : Nat) : ByteArray := nstr [atv m 0, atv m 1, 33]
def KT : Knd := ⟨23, 9, 1, 6, 8000, fun m _ => [.string (tmk m)]⟩
theorem KT_ok : KT.Ok := ⟨by decide, by decide, by decide, by decide, by decide⟩
theorem infoS_ex : ∃ i, Tryz.prog.info? 23 = some i ∧ i.zero = some (.slice none 0 0) ∧ i.size = 1 ∧ i.bytes = 24 := by
  have h : (Tryz.prog.info? 23).map (fun i => (i.zero, i.size, i.bytes)) = some (some (.slice none 0 0), 1, 24) := by kernel_rfl
  cases hi : Tryz.prog.info? 23 with
  | none => rw [hi] at h; cases h
  | some i => rw [hi] at h; simp at h; exact ⟨i, rfl, h.1, h.2.1, h.2.2⟩
theorem splice_one (ys : List Value) (k : Nat) (z : Value) (h : k < ys.length) : splice ys (k * 1) [z] = ys.set k z := by
  unfold splice
  rw [Nat.mul_one, List.set_eq_take_append_cons_drop, if_pos h]
  rfl
set_option maxRecDepth 1000000 in
set_option maxHeartbeats 400000 in
theorem textsMark_any (m : Int) (w : World) (h0 : 0 ≤ m) (h1 : m < 1099511627776) : Calls Tryz.prog 65 #[.int .i64 m] w fun e w' => e = .returned (.string (tmk m.toNat)) ∧ Below w.heap.size w w' := by
  have HA0 := hide (fun W => at_any m 0 W h0 h1 (by omega) (by omega))
  have HA1 := hide (fun W => at_any m 1 W h0 h1 (by omega) (by omega))
  go_enter Tryz.func65, Tryz.ntmps65
  go_wp2_with fail
  refine (HA0.out _).mono ?_
  rintro e w1 ⟨rfl, rfl⟩
  go_wp2_with fail
  refine (HA1.out _).mono ?_
  rintro e w1 ⟨rfl, rfl⟩
  have hb : ∀ x ∈ [atv m.toNat 0, atv m.toNat 1, 33], x < 256 := by
    intro x hx
    simp only [List.mem_cons, List.not_mem_nil, or_false] at hx
    rcases hx with rfl | rfl | rfl
    · unfold atv; split <;> omega
    · unfold atv; split <;> omega
    · decide
  have tx : (convert 149 9 (.slice (some ⟨w1.heap.size, 0, none⟩) 3 3)).run Tryz.prog (w1.alloc (.cells #[.int .u8 ((atv m.toNat 0 : Nat) : Int), .int .u8 ((atv m.toNat 1 : Nat) : Int), .int .u8 33] 5)) = .ok (.string (tmk m.toNat)) (w1.alloc (.cells #[.int .u8 ((atv m.toNat 0 : Nat) : Int), .int .u8 ((atv m.toNat 1 : Nat) : Int), .int .u8 33] 5)) :=
    (bsl_block (xs := [atv m.toNat 0, atv m.toNat 1, 33]) (heap_alloc_new w1 (.cells #[.int .u8 ((atv m.toNat 0 : Nat) : Int), .int .u8 ((atv m.toNat 1 : Nat) : Int), .int .u8 33] 5)) hb (by simp)).text
  have HBL := hide (below_alloc4 w1 (.cells #[.int .u8 ((atv m.toNat 0 : Nat) : Int), .int .u8 ((atv m.toNat 1 : Nat) : Int), .int .u8 33] 5))
  clear hb
  go_wp2_with fail
  go_ret
  exact ⟨rfl, HBL.out⟩
end
section
open Go.ChangeShapes Go.WideShapes Go.ChangeAt Go.RowKit Go.Deep Go.Joins Go
theorem Tryz.cells_str : Tryz.prog.cellsOf 9 = 1 := by kernel_rfl
section
variable {H : Type} {enc : TypeId × Value → H} {P : Program} {w : World} {base : Nat} {spare : Nat → Bool} {held : Bool}
end
end
section
open Go.ChangeShapes Go.WideShapes Go.ChangeAt Go.RowKit Go

end
section
open Go.ChangeShapes Go.WideShapes Go.ChangeAt Go.RowKit Go.Deep Go.Joins Go

end
section
open Go.RowKit Go

end
section
open Go.RowKit Go

end
section
open Go.RowKit Go
structure Bs where
  l : ByteArray
  t : ByteArray
  n : Nat
def b0 : Bs := ⟨⟨#[]⟩, ⟨#[]⟩, 0⟩
end
section
open Go.RowKit Go
theorem sl_at (D : ByteArray) (k : Nat) (h : k < D.size) : (sl D).getD k 0 = D[k].toNat := by
  rw [sl_get]
  congr 1
  have h2 : k < D.data.toList.length := by rw [Array.length_toList]; exact h
  rw [List.getD_eq_getElem?_getD, List.getElem?_eq_getElem h2]
  rfl
end
section
open Go.RowKit Go

end
section
open Go.RowKit Go

end
section
open Go.RowKit Go

end
section
open Go.RowKit Go

end
section
open Go.RowKit Go

end
section
open Go.RowKit Go

end
section
open Go.RowKit Go

end
section
open Go.RowKit Go

end
section
open Go.RowKit Go

end
section
open Go.RowKit Go

end
section
open Go.RowKit Go

end
section
open Go.RowKit Go

end
section
open Go.RowKit Go

end
section
open Go.RowKit Go

end
section
open Go.RowKit Go

end
section
open Go.RowKit Go

end
section
open Go.RowKit Go

end
section
open Go.RowKit Go

end
section
open Go.RowKit Go

end
section
open Go.RowKit Go

end
section
open Go.RowKit Go

end
section
open Go.RowKit Go

end
section
open Go.RowKit Go

end
section
open Go.RowKit Go

end
section
open Go.ChangeShapes Go.WideShapes Go.ChangeAt Go.RowKit Go.Deep Go.Joins Go

end
section
open Go.RowKit
def GrP (F : Knd) (J : Nat) (w : World) (base B : Nat) (C : Array Value) (vb vo : Value) (es : List Ent) (t u : Nat) (w' : World) : Prop :=
  ∃ vb' vo' es' a' C', w'.heap[B]? = some (.cells C' 47 (0, 0)) ∧ Chg (fun k => k = J ∨ k = J + 1 ∨ k = J + 2) C C' ∧ C'[J]? = some vb' ∧ C'[J + 1]? = some vo' ∧ C'[J + 2]? = some (.int .i64 ((a' : Nat) : Int)) ∧ Ko F w' base vb' vo' es' a' t u ∧ Kp (fun q => q = B ∨ Fut vb vo es q) w w' ∧ ∀ q, Fut vb' vo' es' q → Fut vb vo es q ∨ w.heap.size ≤ q
theorem cset (C : Array Value) (j : Nat) (vb vo v3 v5 : Value) : ((((C.setIfInBounds j vb).setIfInBounds (j + 1) vo).setIfInBounds j v3).setIfInBounds (j + 1) v5) = (C.setIfInBounds j v3).setIfInBounds (j + 1) v5 := by
  apply Array.ext_getElem?
  intro k
  simp only [Array.getElem?_setIfInBounds, Array.size_setIfInBounds]
  by_cases h1 : j + 1 = k
  · simp [h1]
  · by_cases h2 : j = k
    · subst h2
      simp
    · simp [h1, h2]
section
variable {F : Knd} {w0 : World} {base B : Nat} {C0 : Array Value} {j : Nat} {vb0 vo0 : Value} {es0 : List Ent} {t : Nat}
theorem Gw.c0 {w : World} {vb vo : Value} {es : List Ent} {k : Nat} (h : Gw F w0 base B C0 j vb0 vo0 es0 t w vb vo es k) (hj : j + 1 < C0.size) : w.cell? ⟨B, j, none⟩ = some vb := blk_cell h.blk (by rw [get_set_ne (by omega), get_set (by omega)])
theorem Gw.c1 {w : World} {vb vo : Value} {es : List Ent} {k : Nat} (h : Gw F w0 base B C0 j vb0 vo0 es0 t w vb vo es k) (hj : j + 1 < C0.size) : w.cell? ⟨B, j + 1, none⟩ = some vo := blk_cell h.blk (get_set (by simp; omega))
theorem Gw.cx {w : World} {vb vo x : Value} {es : List Ent} {k i : Nat} (h : Gw F w0 base B C0 j vb0 vo0 es0 t w vb vo es k) (h1 : i ≠ j) (h2 : i ≠ j + 1) (hx : C0[i]? = some x) : w.cell? ⟨B, i, none⟩ = some x := blk_cell h.blk (by rw [get_set_ne h2, get_set_ne h1]; exact hx)
theorem Gw.next {w w' : World} {vb vo : Value} {es : List Ent} {k : Nat} (h : Gw F w0 base B C0 j vb0 vo0 es0 t w vb vo es k) (hb : Below w.heap.size w w') : Gw F w0 base B C0 j vb0 vo0 es0 t w' vb vo es k :=
  ⟨(hb.block B (blk_lt h.blk)).trans h.blk, h.core.kp (Kp.of_below (S := fun _ => False) hb) (fun _ _ e => e), h.pre, h.kp.trans (Kp.of_below (S := fun _ => False) hb) (fun _ _ e => e.elim), h.foot, h.un, h.old⟩
theorem Ik.next {w w' : World} {vb vo : Value} {es : List Ent} {k : Nat} {e : Ent} {i : Nat} {gv : Value} (h : Ik F w0 base B C0 j vb0 vo0 es0 t w vb vo es k e i gv) (hb : Below w.heap.size w w') : Ik F w0 base B C0 j vb0 vo0 es0 t w' vb vo es k e i gv :=
  ⟨h.g.next hb, (Kp.of_below (S := fun _ => False) hb).owns h.own (fun _ _ e => e), h.gb, h.share⟩
theorem Gw.start {w : World} {vb vo : Value} {es : List Ent} {a u : Nat} {C : Array Value} (hB : w.heap[B]? = some (.cells C 47 (0, 0))) (h0 : C[j]? = some vb) (h1 : C[j + 1]? = some vo) (hK : Ko F w base vb vo es a t u) : Gw F w base B C j vb vo es t w vb vo es a := by
  refine ⟨?_, hK.c, fun _ _ h => h, Kp.refl _ _, fun q hq => .inl hq, fun j ej hj hej i ei hei hij q hq => hK.hg i j ei ej hei hej hj hij q hq, fun j ej hej q hq => ((hK.c.he ej (List.mem_of_getElem? hej)).lt q hq).2⟩
  rw [set_id h0, set_id h1]
  exact hB
theorem Gw.fin (hF : F.Ok) {w : World} {vb vo : Value} {es : List Ent} {k a u : Nat} (h : Gw F w0 base B C0 j vb0 vo0 es0 t w vb vo es k) (hj : j + 2 < C0.size) (h0 : Ko F w0 base vb0 vo0 es0 a t u) (hp : 1 ≤ F.per) (hl : es.length = es0.length + (F.per - 1) * (es0.length - a)) : GrP F j w0 base B C0 vb0 vo0 es0 t u (w.setCell ⟨B, j + 2, none⟩ (.int .i64 ((es.length : Nat) : Int))) := by
  have hk : Kp (fun q => q = B) w (w.setCell ⟨B, j + 2, none⟩ (.int .i64 ((es.length : Nat) : Int))) := (Kp.refl _ _).setCell _ _ (fun _ => rfl)
  refine ⟨vb, vo, es, es.length, _, blk_set (j + 2) _ h.blk, ?_, ?_, ?_, ?_, (h.done h0 hp hl).kp hk (fun q hf e => h.core.notB hF h.blk (by rw [← e]; exact hf)), h.kp.trans hk (fun q _ e => .inl e), h.foot⟩
  · refine ⟨by simp, fun k hk => ?_⟩
    rw [get_set_ne (fun e => hk (.inr (.inr e))), get_set_ne (fun e => hk (.inr (.inl e))), get_set_ne (fun e => hk (.inl e))]
  · rw [get_set_ne (by omega), get_set_ne (by omega), get_set (by omega)]
  · rw [get_set_ne (by omega), get_set (by simp; omega)]
  · exact get_set (by simp; omega)
end
set_option maxRecDepth 1000000 in
set_option maxHeartbeats 1000000 in
theorem growTextsK_any {w : World} {base B : Nat} {C : Array Value} {vb vo : Value} {es : List Ent} {a t u : Nat} (hB : w.heap[B]? = some (.cells C 47 (0, 0))) (h57 : C.size = 57) (hJ0 : C[6]? = some vb) (hJ1 : C[7]? = some vo) (hJ2 : C[8]? = some (.int .i64 ((a : Nat) : Int))) (hK : Ko KT w base vb vo es a t u) (ht : t < 68719476736) (hu : u ≤ 16777216) (hbase : base ≤ w.heap.size) :
    Calls Tryz.prog 78 #[.pointer (some ⟨B, 0, none⟩)] w fun e w' => e = .returned (.tuple #[]) ∧ Hid (GrP KT 6 w base B C vb vo es t u w') := by
  obtain ⟨ab, capb, hvb, -, -, -⟩ := own_form hK.c.hb
  have HBASE := hide hbase
  have H57 := hide h57
  have HJ2 := hide hJ2
  have HK := hide hK
  have hal : a ≤ es.length := by obtain ⟨c, r, h1, h2, _⟩ := hK.count; omega
  have hel : es.length ≤ 139810 := by obtain ⟨c, r, h1, h2, h3⟩ := hK.count; simp only [KT] at h2 h3; omega
  have HG0 : Hid (Gw KT w base B C 6 vb vo es t w vb vo es a) := Gw.start hB hJ0 hJ1 hK
  have HTT := hide ht
  have c0 : w.cell? ⟨B, 6, none⟩ = some vb := blk_cell hB hJ0
  have c2 : w.cell? ⟨B, 8, none⟩ = some (.int .i64 (a : Nat)) := blk_cell hB hJ2
  clear hB h57 hJ0 hJ1 hJ2 hK ht hu hbase
  rw [hvb] at c0
  clear hvb
  obtain ⟨iL, hiL, hzL0, hzL1, hzL2⟩ := infoS_ex
  obtain ⟨iE, hiE, hzE0, hzE1, hzE2⟩ := info9_ex
  go_enter Tryz.func78, Tryz.ntmps78
  go_wp2
  clear c0 c2
  go_loopw [3] (fun i wr => ∃ (k : Nat) (vb2 vo2 : Value) (es2 : List Ent), k ≤ es.length ∧ a ≤ k ∧ i = .int .i64 k ∧ Hid (Gw KT w base B C 6 vb vo es t wr vb2 vo2 es2 k) ∧ Hid (es2.length = es.length + 5 * (k - a))) (fun i _ => es.length - (intOf i).toNat)
  case atStart => exact ⟨a, vb, vo, es, hal, Nat.le_refl _, rfl, HG0, by show _ = _; omega⟩
  case round =>
    obtain ⟨k, vb2, vo2, es2, hk, hak, rfl, HG, HL2⟩ := hrel
    clear HG0
    obtain ⟨ab2, capb2, hvb2, -, -, hcb2⟩ := own_form HG.out.core.hb
    obtain ⟨ao2, capo2, hvo2, -, -, hco2⟩ := own_form HG.out.core.ho
    have HCB := hide hcb2
    have HCO := hide hco2
    have c0 : wr.cell? ⟨B, 6, none⟩ = some vb2 := HG.out.c0 (by have := H57.out; omega)
    have c1 : wr.cell? ⟨B, 7, none⟩ = some vo2 := HG.out.c1 (by have := H57.out; omega)
    have c2 : wr.cell? ⟨B, 8, none⟩ = some (.int .i64 (a : Nat)) := HG.out.cx (by decide) (by decide) HJ2.out
    have f2 := blk_frozen 8 HG.out.blk
    have he2 : es2.length ≤ 1398100 := by have := HL2.out; omega
    clear hcb2 hco2
    by_cases hlt : k < es.length
    · have hlt' : (k : Int) < (es.length : Int) := by omega
      obtain ⟨e, hek⟩ : ∃ e, es[k]? = some e := ⟨es[k], by simp [hlt]⟩
      have hek2 := HG.out.pre k e hek
      have hk2 : k < es2.length := (List.getElem?_eq_some_iff.1 hek2).1
      obtain ⟨gb, hab, hcb1⟩ := HCB.out k e.val (by simp [hek2])
      obtain ⟨go, hao, hco1⟩ := HCO.out k (.int .i64 ((e.m : Nat) : Int)) (by simp [hek2])
      have hmm := HG.out.core.hm e (List.mem_of_getElem? hek2)
      have HIN := hide (HG.out.begin hek)
      obtain ⟨ae, ce, hev⟩ := own_slice HIN.out.own
      have HEK := hide hek
      have HMM : Hid (e.m ≤ t ∧ e.n < 68719476736) := ⟨hmm.1, HK.out.hn k e hek hak⟩
      rw [hab] at hvb2
      rw [hao] at hvo2
      rw [hvb2] at c0
      rw [hvo2] at c1
      rw [Nat.add_zero] at hev
      obtain ⟨ev, en, em⟩ := e
      simp only at hev hcb1 hco1
      subst hev
      clear hvb2 hvo2 hab hao HCB HCO hmm hek hek2 f2 c2
      obtain ⟨wo, rfl⟩ : ∃ x, wr = x := ⟨wr, rfl⟩
      go_wp2
      clear c0 c1 hcb1 hco1
      go_loopw [4, 6] (fun g i wr' => ∃ (q : Nat) (vb3 vo3 : Value) (es3 : List Ent) (ag : Option Addr) (cg : Nat), q ≤ 32 ∧ i = .int .i64 ((q + 1 : Nat)) ∧ g = .slice ag (en + q) cg ∧ Hid (Ik KT w base B C 6 vb vo es t wr' vb3 vo3 es3 k ⟨.slice ae en ce, en, em⟩ q (.slice ag (en + q) cg)) ∧ Hid (es3.length = es2.length + pq q)) (fun _ i _ => 33 - (intOf i).toNat)
      case atStart => exact ⟨0, vb2, vo2, es2, ae, ce, by omega, rfl, rfl, HIN, rfl⟩
      case round =>
        obtain ⟨q, vb3, vo3, es3, ag, cg, hq, rfl, rfl, HI, HL3⟩ := hrel
        have hpc := pq_le q
        have he3 : es3.length ≤ 1398200 := by have := HL3.out; omega
        have HSZB : Hid (base ≤ wr.heap.size) := Nat.le_trans HBASE.out HI.out.g.kp.size
        clear HIN hpc
        by_cases hq96 : q < 32
        · have hq96' : ((q + 1 : Nat) : Int) ≤ 32 := by omega
          have HEN : Hid (en < 68719476736) := HMM.out.2
          have HEM : Hid (em ≤ t) := HMM.out.1
          have HMK := hide (fun W => textsMark_any (em : Int) W (by omega) (by have h1 := HEM.out; have h2 := HTT.out; omega))
          go_wp2_with fail
          refine (HMK.out _).mono ?_
          rintro e w1 ⟨rfl, hb1⟩
          have HI1 := hide (HI.out.next hb1)
          have HSZ1 : Hid (base ≤ w1.heap.size) := Nat.le_trans HSZB.out hb1.size
          have HO3 : Hid (w1.ownsRow base 9 1 (Value.slice ag (en + q) cg) (en + q) (KT.mkl em (en + q))) := HI1.out.own
          clear hb1 HI HMK
          rw [Int.toNat_natCast]
          go_wp2_with (at_builtin; refine append_mk rfl _ _ 23 9 iE _ 1 16 Tryz.underlying23 hiE hzE0 hzE1 hzE2 rfl (by decide) rfl base _ (en + q) _ rfl HO3.out #[.string (tmk em)] rfl ?c1 _ rfl rfl ?c2 (by decide) HSZ1.out ?_)
          case c1 => exact rfl
          case c2 => have := HEN.out; omega
          intro g4 w4 ho4 hkeep4 hk4 hat4
          obtain ⟨a4, c4, hg4⟩ := own_slice ho4
          have HI4 := hide (HI1.out.append KT_ok HEK.out ho4 hkeep4 hk4 hat4)
          have hsz4 : w1.heap.size ≤ w4.heap.size := hk4.size
          have HSZ4 : Hid (base ≤ w4.heap.size) := Nat.le_trans HSZ1.out hsz4
          subst hg4
          clear ho4 hkeep4 hk4 hat4 hsz4 HI1 HO3
          clear hq96'
          have hpos : ((q : Int) + 1 < 4 ∨ (¬ (q : Int) + 1 < 4 ∧ (((q : Int) + 1) % 16 == 0) = true)) ∨ (¬ (q : Int) + 1 < 4 ∧ (((q : Int) + 1) % 16 == 0) = false) := by
            by_cases h1 : q + 1 < 4
            · exact .inl (.inl (by omega))
            · by_cases h2 : (q + 1) % 16 = 0
              · exact .inl (.inr ⟨by omega, beq_iff_eq.2 (by omega)⟩)
              · exact .inr ⟨by omega, beq_eq_false_iff_ne.2 (by omega)⟩
          rcases hpos with hpos | ⟨hno1, hno2⟩
          · have hpc1 : pq (q + 1) = pq q + 1 := by
              refine pq_yes ?_
              rcases hpos with h | ⟨_, h⟩
              · left; omega
              · right; have := beq_iff_eq.1 h; omega
            have HPC := hide hpc1
            have c0 : w4.cell? ⟨B, 6, none⟩ = some vb3 := HI4.out.g.c0 (by have := H57.out; omega)
            clear hpc1
            rcases hpos with hno1 | ⟨hno1, hno2⟩
            all_goals
              go_wp2_with (at_builtin; refine append_lst rfl _ _ 31 23 iL Tryz.underlying31 hiL hzL0 hzL1 hzL2 rfl base vb3 es3.length _ rfl HI4.out.g.core.hb _ _ rfl rfl rfl (by omega) HSZ4.out ?_)
              intro v5 w5 ho5 hg5 hat5
              obtain ⟨a5, c5, hv5⟩ := own_slice ho5
              obtain ⟨hblk5, hblk6, hhalf, hkp5⟩ := HI4.out.g.core.push_a KT_ok HI4.out.g.blk 6 ⟨Value.slice a4 (en + q + 1) c4, en + (q + 1), em⟩ HI4.out.own v5 ho5 hg5
              have c0' : w5.cell? ⟨B, 6, none⟩ = some vb3 := blk_cell hblk5 (by rw [get_set_ne (by decide), get_set (by have := H57.out; omega)])
              have c1' : (w5.setCell ⟨B, 6, none⟩ v5).cell? ⟨B, 7, none⟩ = some vo3 := blk_cell hblk6 (by rw [get_set_ne (by decide), get_set (by have := H57.out; simp; omega)])
              have f0' := blk_frozen 6 hblk5
              have HHF := hide hhalf
              have HKP5 := hide hkp5
              have HBK6 := hide hblk6
              have HAT5 : Hid (∀ z, v5.ownBlock = some z → vb3.ownBlock = some z ∨ w.heap.size ≤ z) := fun z hz => by
                rcases hat5 with h | h
                · exact .inl (by rw [← h]; exact hz)
                · rw [h] at hz; injection hz with hz; exact .inr (by have := HI4.out.g.kp.size; omega)
              have HSZ5 : Hid (base ≤ (w5.setCell ⟨B, 6, none⟩ v5).heap.size ∧ w.heap.size ≤ (w5.setCell ⟨B, 6, none⟩ v5).heap.size) := ⟨Nat.le_trans HSZ4.out hkp5.size, Nat.le_trans HI4.out.g.kp.size hkp5.size⟩
              subst hv5
              clear ho5 hg5 hat5 hblk5 hblk6 hhalf hkp5 c0
              go_wp2_with (at_builtin; refine append_int rfl _ _ rfl base vo3 es3.length _ rfl HHF.out.ho _ w5.heap.size (by simp) rfl (by omega) HSZ5.out.1 ?_)
              intro v7 w7 ho7 hg7 hat7
              obtain ⟨a7, c7, hv7⟩ := own_slice ho7
              obtain ⟨hblk7, hblk8, hbk7, hkp7⟩ := HHF.out.push_b KT_ok (t := t) HBK6.out 7 v7 ho7 hg7 HI4.out.g.core.hs (fun x hx z h1 h2 => (HI4.out.share x hx z h1 h2).1) HI4.out.g.core.hm ⟨HEM.out, by have := HEN.out; show en + (q + 1) < _; omega⟩
              have c1'' : w7.cell? ⟨B, 7, none⟩ = some vo3 := blk_cell hblk7 (by rw [get_set_ne (by decide), get_set (by have := H57.out; simp; omega)])
              have f1'' := blk_frozen 7 hblk7
              have hkall : Kp (fun z => z = B ∨ vb3.ownBlock = some z ∨ vo3.ownBlock = some z) w4 (w7.setCell ⟨B, 7, none⟩ v7) :=
                (HKP5.out.mono (fun z _ hz => by rcases hz with h | h; exact .inl h; exact .inr (.inl h))).trans hkp7 (fun z _ hz => by rcases hz with h | h; exact .inl h; exact .inr (.inr h))
              have hbl9 := hblk8
              rw [cset C 6] at hbl9
              have HI7 := hide (HI4.out.push HEK.out hbl9 hbk7 hkall HAT5.out (fun z hz => by
                rcases hat7 with h | h
                · exact .inl (by rw [← h]; exact hz)
                · rw [h] at hz; injection hz with hz; exact .inr (by have := HSZ5.out.2; simp at this; omega)))
              subst hv7
              clear ho7 hg7 hat7 hblk7 hblk8 hbl9 hbk7 hkp7 hkall c0' c1' f0' HHF HKP5 HAT5 HSZ5 HI4 HBK6
              go_wp2
              go_roundw
              case rel => exact ⟨q + 1, _, _, _, _, _, by omega, by go_num, rfl, HI7, by show _ = _; have h1 := HL3.out; have h2 := HPC.out; simp; omega⟩
              case measure => simp [intOf]; omega
          · have hpc1 : pq (q + 1) = pq q := by
              refine pq_no ?_
              have := beq_eq_false_iff_ne.1 hno2
              omega
            have HPC := hide hpc1
            clear hpc1
            go_wp2
            go_roundw
            case rel => exact ⟨q + 1, _, _, _, _, _, by omega, by go_num, rfl, HI4, by show _ = _; have h1 := HL3.out; have h2 := HPC.out; omega⟩
            case measure => simp [intOf]; omega
        · have hq96' : ¬ ((q : Int) + 1) ≤ 32 := by omega
          have hqq : q = 32 := by omega
          have HQQ := hide hqq
          clear hqq hq96
          go_wp2
          go_roundw
          case rel =>
            refine ⟨k + 1, vb3, vo3, es3, by omega, by omega, by go_num, HI.out.g, ?_⟩
            have h1 := HL3.out
            have h2 := HL2.out
            rw [HQQ.out, pq_32] at h1
            show _ = _
            omega
          case measure => simp [intOf]; omega
    · have hlt' : ¬ (k : Int) < (es.length : Int) := by omega
      have hke : k = es.length := by omega
      rw [hvb2] at c0
      have HFI : Hid (GrP KT 6 w base B C vb vo es t u (wr.setCell ⟨B, 8, none⟩ (.int .i64 ((es2.length : Nat) : Int)))) := HG.out.fin KT_ok (by have := H57.out; omega) HK.out (by decide) (by have := HL2.out; rw [hke] at this; exact this)
      clear hke
      go_wp2
      go_end0
      exact ⟨rfl, HFI⟩
end
section
open Go.RowKit
theorem fill_oneS {s : Nat} (hs : 0 < s) (c cells : Array Value) (h : c.size = s) (hc : cells.size = s) : Instr.fill (fun i => some (i * s, s)) cells [(0, .agg c)] = some c := by
  obtain ⟨r, hr, hsz, hk⟩ := Great.fill_dense (s := s) hs [.agg c] 0 cells (by
    intro v hv
    simp only [List.mem_singleton] at hv
    subst hv
    simpa [Value.cells] using h) (by simp; omega)
  have e : r = c := by
    apply Array.ext_getElem?
    intro k
    rw [hk k]
    by_cases h1 : k < s
    · rw [if_pos ⟨by omega, by simp; omega⟩]
      simp [Value.cells, Nat.div_eq_of_lt h1, Nat.mod_eq_of_lt h1]
    · rw [if_neg (by simp; omega), Array.getElem?_eq_none (by omega), Array.getElem?_eq_none (by omega)]
  rw [e] at hr
  exact hr
theorem wpList_oneS {ops : Array Oper} {rest : List Oper} {o : Oper} {a : Act} {w : World} {Q : Exit → Act → World → Prop} {x0 : Operand} (hg : o.guard = none) (T1 e : TypeId) (ho : o.op = .buildSlice T1 1 #[(0, x0)]) (i : TypeInfo) (z : Value) (c : Array Value) (s : Nat) (hT : Tryz.prog.underlying T1 = some (.slice e)) (hi : Tryz.prog.info? e = some i) (hz : i.zero = some z) (hs : i.size = s) (hpos : 0 < s) (h24 : s ≤ 1000) (hc : c.size = s)
    (h0 : a.eval x0 = .agg c)
    (h : wpList Tryz.prog ops Q rest (a.put o.dst (.slice (some ⟨w.heap.size, 0, none⟩) 1 1)) (w.alloc (.cells c e))) : wpList Tryz.prog ops Q (o :: rest) a w := by
  refine wpList_buildSlice hg T1 e 1 _ ho c i z hT hi hz (by rw [hs]; omega) (by rw [hs]; omega) ?_ h
  rw [hs]
  have e : ((#[(0, x0)] : Array (Nat × Operand)).map fun (i, x) => (i, a.eval x)).toList = [(0, .agg c)] := by simp [h0]
  rw [e]
  exact fill_oneS hpos c _ hc (by simp)
end
section
open Go.RowKit Go
def Tabs (w : World) : Prop := Lib.Utf8Tabs (Tryz.laysValid_ren.g 3) (Tryz.laysValid_ren.g 4) w
theorem Tabs.next {w w' : World} (h : Tabs w) (hb : Below w.heap.size w w') : Tabs w' := Utf8Tabs_below h hb
def badb (s : ByteArray) : Bool := !Lib.validD s.data.toList
theorem valid_any (s : ByteArray) (w : World) (hs : s.size ≤ 140737488351232) (hT : Tabs w) : Calls Tryz.prog 172 #[.string s] w fun e w' => e = .returned (.bool (!badb s)) ∧ Below w.heap.size w w' := by
  unfold badb
  rw [Bool.not_not]
  exact Any.utf8_ValidString Tryz.laysValid s w (by omega) hT
end
section
open Go.RowKit Go
structure Rf where
  n : ByteArray
  z : Bool
structure Fd where
  n : ByteArray
  k : ByteArray
  r : Rf
  m : Bool
structure Cz where
  k : ByteArray
  n : ByteArray
structure Tp where
  n : ByteArray
  k : Int
  lo : Int
  hi : Int
  r : Rf
  fs : List Fd
  cs : List Cz
  ws : List ByteArray
def zrf : Rf := ⟨⟨#[]⟩, false⟩
def ztp : Tp := ⟨⟨#[]⟩, 0, 0, 0, zrf, [], [], []⟩
def otp (s : ByteArray) : Tp := ⟨s, 0, 0, 0, zrf, [], [], []⟩
def nAny : ByteArray := ⟨#[97, 110, 121]⟩
def nNull : ByteArray := ⟨#[110, 117, 108, 108]⟩
def owns : List (ByteArray × Nat) := [(⟨#[97, 110, 121]⟩, 0), (⟨#[110, 117, 108, 108]⟩, 1), (⟨#[98, 111, 111, 108]⟩, 2), (⟨#[105, 110, 116]⟩, 3), (⟨#[102, 108, 111, 97, 116]⟩, 4), (⟨#[115, 105, 110, 103, 108, 101]⟩, 4), (⟨#[116, 101, 120, 116]⟩, 5), (⟨#[98, 121, 116, 101, 115]⟩, 6), (⟨#[108, 105, 110, 107]⟩, 7)]
def ownK (s : ByteArray) : Option Nat := (owns.find? fun p => decide (p.1 = s)).map (·.2)
def plc : List Tp → ByteArray → Option Nat
  | [], _ => none
  | t :: r, s => if t.n = s then some 0 else (plc r s).map (· + 1)
def fnd (l : List Tp) (s : ByteArray) : Tp × Bool := match plc l s with
  | some i => (l.getD i ztp, true)
  | none => if (ownK s).isSome then (otp s, true) else (ztp, false)
def flw (l : List Tp) : Nat → ByteArray → Bool → ByteArray × Bool
  | 0, _, _ => (⟨#[]⟩, false)
  | k + 1, s, z => if (fnd l s).1.k ≠ 1 then (s, z || decide (s = nAny) || decide (s = nNull)) else flw l k (fnd l s).1.r.n (z || (fnd l s).1.r.z)
def flo (l : List Tp) (s : ByteArray) : ByteArray × Bool := flw l (l.length + 1) s false
def knd (t : Tp) : Nat := if t.k = 2 then 3 else if t.k = 3 ∨ t.k = 6 then 8 else if t.k = 4 ∨ t.k = 5 ∨ t.k = 7 then 9 else if t.k = 9 then 5 else (ownK t.n).getD 0
def nby (c : Nat) : Bool := decide (97 ≤ c ∧ c ≤ 122) || decide (65 ≤ c ∧ c ≤ 90) || decide (48 ≤ c ∧ c ≤ 57) || decide (c = 45) || decide (c = 46) || decide (c = 95)
def nbl (s : ByteArray) : Bool := decide (0 < s.size) && decide (s.size ≤ 64) && s.data.toList.all fun c => nby c.toNat
def tdy (t : Tp) : Bool :=
  let k := t.k
  decide (1 ≤ k ∧ k ≤ 9) && (decide (k = 2 ∨ k = 3 ∨ k = 4) || decide (t.lo = 0 ∧ t.hi = 0)) && (decide (k = 1 ∨ k = 3 ∨ k = 4) || decide (t.r.n = ⟨#[]⟩ ∧ t.r.z = false))
    && (decide (k = 5 ∨ k = 6) || t.fs.isEmpty) && (decide (k = 7 ∨ k = 8) || t.cs.isEmpty) && (decide (k = 9) || t.ws.isEmpty)
def rfs (t : Tp) : List Rf := (if t.k = 1 ∨ t.k = 3 ∨ t.k = 4 then [t.r] else []) ++ t.fs.map (·.r) ++ t.cs.map (fun c => ⟨c.n, false⟩)
def memb (L : List ByteArray) (s : ByteArray) : Bool := L.any fun t => decide (t = s)
theorem memb_iff {L : List ByteArray} {s : ByteArray} : memb L s = true ↔ s ∈ L := by
  unfold memb
  rw [List.any_eq_true]
  exact ⟨fun ⟨x, h1, h2⟩ => by rw [← of_decide_eq_true h2]; exact h1, fun h => ⟨s, h, by simp⟩⟩
def stray (seen : List ByteArray) (s : ByteArray) : Bool := memb seen s || badb s
def goodT : List ByteArray → List ByteArray → Bool
  | _, [] => true
  | seen, s :: r => !stray seen s && goodT (s :: seen) r
def ffs (k : Int) : List ByteArray → List ByteArray → Bool → List Fd → Bool
  | _, _, _, [] => true
  | ns, ks, mb, f :: r =>
    if !nbl f.n || stray ns f.n then false
    else if decide (k = 5) && stray ks f.k then false
    else if decide (k = 6) && (decide (f.k ≠ ⟨#[]⟩) || mb && !f.m) then false
    else ffs k (f.n :: ns) (if k = 5 then f.k :: ks else ks) f.m r
def fft (t : Tp) : Bool := decide (t.fs.length ≤ 64) && ffs t.k [] [] false t.fs
def some64 (n : Nat) : Bool := decide (0 < n) && decide (n ≤ 64)
def cft (t : Tp) : Bool :=
  if t.k = 7 then some64 t.cs.length && goodT [] (t.cs.map (·.k))
  else if t.k = 8 then some64 t.cs.length && t.cs.all fun c => decide (c.k = ⟨#[]⟩)
  else if t.k = 9 then some64 t.ws.length && goodT [] t.ws
  else true
def aln (l : List Tp) (i : Nat) (t : Tp) : Nat :=
  if !nbl t.n || (ownK t.n).isSome || decide ((plc l t.n).getD 0 < i) then 111
  else if !tdy t then 112
  else if t.lo > t.hi ∨ (t.lo < 0 ∧ t.k ≠ 2) then 113
  else if (rfs t).any fun r => !(fnd l r.n).2 then 114
  else if !fft t then 115
  else if !cft t then 116
  else 0
def rng (l : List Tp) (t : Tp) : Nat := if flo l t.n = (⟨#[]⟩, false) then 117 else 0
def kap (l : List Tp) : List Nat → List Cz → Bool
  | _, [] => true
  | seen, c :: r =>
    let e := flo l c.n
    let k := knd (fnd l e.1).1
    if e.2 || decide (k = 0) || seen.contains k then false else kap l (k :: seen) r
def tgt (l : List Tp) (t : Tp) : Nat :=
  if (rfs t).any fun r => r.z && (flo l r.n).2 then 118
  else if t.k = 8 ∧ kap l [] t.cs = false then 116
  else 0
def lk1 (f : Nat → Tp → Nat) : Nat → List Tp → Option (Nat × Nat)
  | _, [] => none
  | i, t :: r => if f i t ≠ 0 then some (f i t, i) else lk1 f (i + 1) r
def chk11 (l : List Tp) : Nat × Nat :=
  if 64 < l.length then (110, 0)
  else match lk1 (aln l) 0 l with
    | some r => r
    | none => match lk1 (fun _ t => rng l t) 0 l with
      | some r => r
      | none => match lk1 (fun _ t => tgt l t) 0 l with
        | some r => r
        | none => (0, 0)
end
section
open Go.RowKit Go
structure GSl {α : Type} (n : Nat) (P : World → α → Array Value → Prop) (w : World) (v : Value) (xs : List α) : Prop where
  form : ∃ a cap, v = .slice a xs.length cap ∧ (xs.length ≤ cap ∧ (a = none → cap = 0)) ∧ (xs = [] ∨ ∃ b off, a = some ⟨b, off, none⟩ ∧ ∀ i x, xs[i]? = some x → ∃ c, P w x c ∧ ∀ j u, c[j]? = some u → w.cell? ⟨b, off + i * n + j, none⟩ = some u)
  max : xs.length ≤ 140737488351232
theorem GSl.move {α : Type} {n : Nat} {P : World → α → Array Value → Prop} {w w' : World} {v : Value} {xs : List α} (h : GSl n P w v xs) (hP : ∀ x c, P w x c → P w' x c) (hm : ∀ p u, w.cell? p = some u → w'.cell? p = some u) : GSl n P w' v xs := by
  obtain ⟨⟨a, cap, hv, hn, hc⟩, h1⟩ := h
  refine ⟨⟨a, cap, hv, hn, ?_⟩, h1⟩
  rcases hc with hc | ⟨b, off, ha, hc⟩
  · exact .inl hc
  · exact .inr ⟨b, off, ha, fun i x hi => by
      obtain ⟨c, h2, h3⟩ := hc i x hi
      exact ⟨c, hP x c h2, fun j u hj => hm _ _ (h3 j u hj)⟩⟩
theorem GSl.nil {α : Type} {n : Nat} {P : World → α → Array Value → Prop} {w : World} : GSl n P w (.slice none 0 0) [] := ⟨⟨none, 0, rfl, ⟨Nat.le_refl _, fun _ => rfl⟩, .inl rfl⟩, Nat.zero_le _⟩
theorem load_agg {w : World} {T n : Nat} (hi : (Tryz.prog.info? T).map (·.size) = some n) (ha : ∀ w, (isAgg T).run Tryz.prog w = .ok true w) (g o : Nat) (cs : Array Value) (hn : cs.size = n) (hc : ∀ j u, cs[j]? = some u → w.cell? ⟨g, o + j, none⟩ = some u) : (Instr.loadAt T (.pointer (some ⟨g, o, none⟩))).run Tryz.prog w = .ok (.agg cs) w := by
  have hl := run_loadCells_list (P := Tryz.prog) (w := w) ⟨g, o, none⟩ cs.toList (fun j v hv => by rw [addr_add]; exact hc j v (by simpa using hv))
  simp only [Instr.loadAt, Instr.sureAddr, Sem.run_bind, Sem.run_pure, Result.andThen]
  cases hq : Tryz.prog.info? T with
  | none => simp [hq] at hi
  | some i =>
    have hs : i.size = n := by simpa [hq] using hi
    have hn2 : cs.toList.length = n := by simpa using hn
    rw [hn2] at hl
    simp [loadVar, ha w, sizeOf, typeInfo, hq, hs, hl]
theorem wpList_aggAt {ops : Array Oper} {rest : List Oper} {o : Oper} {a : Act} {Q : Exit → Act → World → Prop} {w : World} {p : Operand} {T n : Nat} (hgd : Region.wanted o (yielded ops a.tmps) = true) (ho : o.op = .load T p) (hi : (Tryz.prog.info? T).map (·.size) = some n) (ha : ∀ w, (isAgg T).run Tryz.prog w = .ok true w) (g off : Nat) (cs : Array Value)
    (hp : a.eval p = .pointer (some ⟨g, off, none⟩)) (hn : cs.size = n) (hc : ∀ j u, cs[j]? = some u → w.cell? ⟨g, off + j, none⟩ = some u)
    (h : wpList Tryz.prog ops Q rest (a.put o.dst (.agg cs)) w) : wpList Tryz.prog ops Q (o :: rest) a w := by
  refine wpList_wanted hgd fun K hK => ?_
  unfold Oper.wp execOp
  simp only [ho, Sem.run_bind, hp, load_agg hi ha g off cs hn hc, Result.andThen_ok]
  exact hK _ _ h
theorem exec_aggAt {o : Oper} {a : Act} {p : Operand} {g off : Nat} {cs : Array Value} {w : World} {T n : Nat} (hi : (Tryz.prog.info? T).map (·.size) = some n) (ha : ∀ w, (isAgg T).run Tryz.prog w = .ok true w) (ho : o.op = .load T p) (hp : a.eval p = .pointer (some ⟨g, off, none⟩)) (hn : cs.size = n) (hc : ∀ j u, cs[j]? = some u → w.cell? ⟨g, off + j, none⟩ = some u) : (execOp a.eval o).run Tryz.prog w = .ok (.value (.agg cs)) w := by
  unfold execOp
  have hr := load_agg (w := w) hi ha g off cs hn hc
  simp only [ho, Sem.run_bind, hp, hr, Result.andThen_ok]
  rfl
end
section
open Go.RowKit Go
def fdc (f : Fd) : Array Value := #[.string f.n, .string f.k, .string f.r.n, .bool f.r.z, .bool f.m]
def czc (c : Cz) : Array Value := #[.string c.k, .string c.n]
def rfc (r : Rf) : Array Value := #[.string r.n, .bool r.z]
def tpc (t : Tp) (vf vc vw : Value) : Array Value := #[.string t.n, .int .i64 t.k, .int .i64 t.lo, .int .i64 t.hi, .string t.r.n, .bool t.r.z, vf, vc, vw]
def Fdi (_ : World) (f : Fd) (c : Array Value) : Prop := c = fdc f ∧ f.n.size ≤ 140737488351232 ∧ f.k.size ≤ 140737488351232 ∧ f.r.n.size ≤ 140737488351232
def Czi (_ : World) (x : Cz) (c : Array Value) : Prop := c = czc x ∧ x.k.size ≤ 140737488351232 ∧ x.n.size ≤ 140737488351232
def Rfi (_ : World) (r : Rf) (c : Array Value) : Prop := c = rfc r ∧ r.n.size ≤ 140737488351232
abbrev FSl (w : World) (v : Value) (fs : List Fd) : Prop := GSl 5 Fdi w v fs
abbrev CSl (w : World) (v : Value) (cs : List Cz) : Prop := GSl 2 Czi w v cs
abbrev RSl (w : World) (v : Value) (rs : List Rf) : Prop := GSl 2 Rfi w v rs
structure Tpb (t : Tp) : Prop where
  n : t.n.size ≤ 140737488351232
  r : t.r.n.size ≤ 140737488351232
  k : -9223372036854775808 ≤ t.k ∧ t.k ≤ 9223372036854775807
  lo : -9223372036854775808 ≤ t.lo ∧ t.lo ≤ 9223372036854775807
  hi : -9223372036854775808 ≤ t.hi ∧ t.hi ≤ 9223372036854775807
structure Tpi (w : World) (t : Tp) (c : Array Value) : Prop where
  ex : ∃ vf vc vw, c = tpc t vf vc vw ∧ FSl w vf t.fs ∧ CSl w vc t.cs ∧ SSl w vw t.ws
  b : Tpb t
theorem Tpi.move {w w' : World} {t : Tp} {c : Array Value} (h : Tpi w t c) (hm : ∀ p u, w.cell? p = some u → w'.cell? p = some u) : Tpi w' t c := by
  obtain ⟨⟨vf, vc, vw, e, h1, h2, h3⟩, hb⟩ := h
  exact ⟨⟨vf, vc, vw, e, h1.move (fun _ _ h => h) hm, h2.move (fun _ _ h => h) hm, h3.move hm⟩, hb⟩
theorem Tpi.size9 {w : World} {t : Tp} {c : Array Value} (h : Tpi w t c) : c.size = 9 := by
  obtain ⟨⟨_, _, _, rfl, _⟩, _⟩ := h
  rfl
theorem Tpi.all1 {w : World} {t : Tp} {c : Array Value} (h : Tpi w t c) : c.all (·.oneCell') = true := by
  obtain ⟨⟨_, _, _, rfl, ⟨⟨_, _, rfl, _⟩, _⟩, ⟨⟨_, _, rfl, _⟩, _⟩, ⟨⟨_, _, rfl, _⟩, _, _⟩⟩, _⟩ := h
  simp [tpc, Value.oneCell']
abbrev TSl (w : World) (v : Value) (ts : List Tp) : Prop := GSl 9 Tpi w v ts
theorem TSl.mv {w w' : World} {v : Value} {ts : List Tp} (h : TSl w v ts) (hm : ∀ p u, w.cell? p = some u → w'.cell? p = some u) : TSl w' v ts := GSl.move h (fun _ _ h => h.move hm) hm
theorem FSl.mv {w w' : World} {v : Value} {fs : List Fd} (h : FSl w v fs) (hm : ∀ p u, w.cell? p = some u → w'.cell? p = some u) : FSl w' v fs := GSl.move h (fun _ _ h => h) hm
theorem CSl.mv {w w' : World} {v : Value} {cs : List Cz} (h : CSl w v cs) (hm : ∀ p u, w.cell? p = some u → w'.cell? p = some u) : CSl w' v cs := GSl.move h (fun _ _ h => h) hm
theorem RSl.mv {w w' : World} {v : Value} {rs : List Rf} (h : RSl w v rs) (hm : ∀ p u, w.cell? p = some u → w'.cell? p = some u) : RSl w' v rs := GSl.move h (fun _ _ h => h) hm

theorem infoTp : (Tryz.prog.info? 69).map (·.size) = some 9 := by kernel_rfl
theorem infoFd : (Tryz.prog.info? 104).map (·.size) = some 5 := by kernel_rfl
theorem infoCz : (Tryz.prog.info? 114).map (·.size) = some 2 := by kernel_rfl
theorem infoRf : (Tryz.prog.info? 65).map (·.size) = some 2 := by kernel_rfl
theorem aggTp (w : World) : (isAgg 69).run Tryz.prog w = .ok true w := by
  unfold isAgg
  rw [Sem.run_bind, run_underlying Tryz.underlying69 w]
  simp
theorem aggFd (w : World) : (isAgg 104).run Tryz.prog w = .ok true w := by
  unfold isAgg
  rw [Sem.run_bind, run_underlying Tryz.underlying104 w]
  simp
theorem aggCz (w : World) : (isAgg 114).run Tryz.prog w = .ok true w := by
  unfold isAgg
  rw [Sem.run_bind, run_underlying Tryz.underlying114 w]
  simp
theorem aggRf (w : World) : (isAgg 65).run Tryz.prog w = .ok true w := by
  unfold isAgg
  rw [Sem.run_bind, run_underlying Tryz.underlying65 w]
  simp
end
section
open Go.RowKit Go
theorem wpList_ex {ops : Array Oper} {rest : List Oper} {o : Oper} {a : Act} {Q : Exit → Act → World → Prop} {w : World} {v : Value} (hgd : Region.wanted o (yielded ops a.tmps) = true) (he : (execOp a.eval o).run Tryz.prog w = .ok (.value v) w) (h : wpList Tryz.prog ops Q rest (a.put o.dst v) w) : wpList Tryz.prog ops Q (o :: rest) a w := by
  refine wpList_wanted hgd fun K hK => ?_
  unfold Oper.wp
  rw [he]
  exact hK _ _ h
theorem str_no {s t : ByteArray} (he : s ≠ t) : (s.toList == t.toList) = false := by
  rw [beq_eq_false_iff_ne]
  intro h
  rw [ByteArray.toList_eq, ByteArray.toList_eq] at h
  obtain ⟨⟨l⟩⟩ := s
  obtain ⟨⟨m⟩⟩ := t
  simp only at h
  exact he (by rw [h])
theorem str_yes (s : ByteArray) : (s.toList == s.toList) = true := by simp
theorem lawS : Maps.Keyed Tryz.prog 9 := Maps.string_keyed Tryz.underlying9
theorem zeroI (w : World) : (zeroValue 3).run Tryz.prog w = .ok (.int .i64 0) w := by kernel_rfl
theorem zeroU (w : World) : (zeroValue 78).run Tryz.prog w = .ok (.agg #[]) w := by kernel_rfl
def kyl (s : ByteArray) : Lit := .string s.data.toList
theorem kyl_ne {s t : ByteArray} (h : s ≠ t) : kyl s ≠ kyl t := fun e => h (by
  unfold kyl at e
  injection e with e
  obtain ⟨⟨l⟩⟩ := s
  obtain ⟨⟨m⟩⟩ := t
  simp only at e
  rw [e])
theorem keyS {s : ByteArray} (h : s.size ≤ 140737488351232) : keyOf Tryz.prog 9 (.string s) = some (kyl s) := WideMaps.keyOf_string_mk Tryz.underlying9 (by unfold maxLen; omega)
theorem isKeyL (s : ByteArray) : WideAt.IsKeyLit (kyl s) := trivial
def Mps (w : World) (B n : Nat) (g : ByteArray → Option Int) : Prop := ∃ D : DataW Unit, w.ownsMap Tryz.prog 9 (plainElem Tryz.prog 3) B n D ∧ ∀ s, Maps.has D (kyl s) = (g s).isSome ∧ ∀ i, g s = some i → D.atKey (kyl s) (.lit (.int .i64 0)) = .lit (.int .i64 i)
theorem Mps.made (w : World) : Mps (w.alloc (.map #[] 0)) w.heap.size 0 (fun _ => none) := ⟨.map [], World.ownsMap_made _ _ _ _, fun _ => ⟨rfl, fun _ h => by cases h⟩⟩
theorem Mps.block {w w' : World} {B n : Nat} {g : ByteArray → Option Int} (h : Mps w B n g) (hb : w'.heap[B]? = w.heap[B]?) : Mps w' B n g := by
  obtain ⟨D, ⟨es, clock, h1, h2⟩, h3⟩ := h
  exact ⟨D, ⟨es, clock, hb.trans h1, h2⟩, h3⟩
theorem Mps.lt {w : World} {B n : Nat} {g : ByteArray → Option Int} (h : Mps w B n g) : B < w.heap.size := by
  obtain ⟨D, h1, _⟩ := h
  exact h1.lt
theorem Mps.next {w w' : World} {B n : Nat} {g : ByteArray → Option Int} (h : Mps w B n g) (hb : Below w.heap.size w w') : Mps w' B n g := h.block (hb.block _ h.lt)
theorem Mps.kp {w w' : World} {B n : Nat} {g : ByteArray → Option Int} {S : Nat → Prop} (h : Mps w B n g) (hk : Kp S w w') (hs : ¬ S B) : Mps w' B n g := h.block (hk.block _ h.lt hs)
theorem Mps.look {w : World} {B n : Nat} {g : ByteArray → Option Int} (h : Mps w B n g) {s : ByteArray} (hs : s.size ≤ 140737488351232) : (Instr.lookup 74 (.map (some B)) (.string s) false).run Tryz.prog w = .ok (.int .i64 ((g s).getD 0)) w := by
  obtain ⟨D, h1, h2⟩ := h
  obtain ⟨c, hrun, hat, _⟩ := h1.lookup_int lawS Tryz.underlying74 Tryz.underlying3 (zeroI w) (keyS hs)
  rw [hrun]
  obtain ⟨h3, h4⟩ := h2 s
  cases hg : g s with
  | none =>
    rw [hg] at h3
    rw [Maps.atKey_of_not_has h3] at hat
    have he := (Lit.int.inj (DataW.lit.inj hat)).2
    rw [← he]
    rfl
  | some i =>
    rw [h4 i hg] at hat
    have he := (Lit.int.inj (DataW.lit.inj hat)).2
    rw [← he]
    rfl
theorem Mps.look_ok {w : World} {B n : Nat} {g : ByteArray → Option Int} (h : Mps w B n g) {s : ByteArray} (hs : s.size ≤ 140737488351232) : (Instr.lookup 74 (.map (some B)) (.string s) true).run Tryz.prog w = .ok (.tuple #[.int .i64 ((g s).getD 0), .bool (g s).isSome]) w := by
  obtain ⟨D, h1, h2⟩ := h
  obtain ⟨v, ps, hrun, hv⟩ := h1.look_ok lawS Tryz.underlying74 (zeroI w) (plainElem_int Tryz.underlying3 (by decide)) (keyS hs)
  obtain ⟨c, rfl, hc, _⟩ := plainElem_int_inv Tryz.underlying3 hv
  have hat := congrArg Prod.fst hc
  simp only at hat
  rw [hrun]
  obtain ⟨h3, h4⟩ := h2 s
  rw [h3]
  cases hg : g s with
  | none =>
    rw [hg] at h3
    rw [Maps.atKey_of_not_has h3] at hat
    have he := (Lit.int.inj (DataW.lit.inj hat)).2
    rw [← he]
    rfl
  | some i =>
    rw [h4 i hg] at hat
    have he := (Lit.int.inj (DataW.lit.inj hat)).2
    rw [← he]
    rfl
def putG (g : ByteArray → Option Int) (s : ByteArray) (i : Int) : ByteArray → Option Int := fun t => if t = s then some i else g t
theorem Mps.put {w : World} {B n : Nat} {g : ByteArray → Option Int} (h : Mps w B n g) {s : ByteArray} (hs : s.size ≤ 140737488351232) {i : Int} (hi : (Lit.int .i64 i).wf = true) (hn : n < 140737488351232) :
    ∃ w', (Instr.mapUpdate 74 (.map (some B)) (.string s) (.int .i64 i)).run Tryz.prog w = .ok () w' ∧ Mps w' B (n + 1) (putG g s i) ∧ Kp (fun q => q = B) w w' := by
  obtain ⟨D, h1, h2⟩ := h
  obtain ⟨w', hrun, h3, h4⟩ := h1.update lawS Tryz.underlying74 (by unfold maxLen; omega) (keyS hs) (plainElem_int Tryz.underlying3 hi)
  refine ⟨w', hrun, ⟨_, h3, fun t => ?_⟩, ⟨h4.os, h4.tape, h4.output, h4.size, fun k hk hne => h4.block k hk (fun e => hne (by injection e))⟩⟩
  unfold putG
  by_cases ht : t = s
  · subst ht
    rw [if_pos rfl]
    exact ⟨Maps.has_put_same h1.isMap (isKeyL t) _, fun j hj => by
      rw [← Option.some.inj hj]
      exact Maps.atKey_put_same h1.isMap (isKeyL t) _ _⟩
  · rw [if_neg ht, Maps.has_put_other (kyl_ne ht)]
    refine ⟨(h2 t).1, fun j hj => ?_⟩
    rw [Maps.atKey_put_other (kyl_ne ht)]
    exact (h2 t).2 j hj
def Mst (w : World) (B n : Nat) (L : List ByteArray) : Prop := L.Nodup ∧ ∃ D : DataW Unit, w.ownsMap Tryz.prog 9 unitElem B n D ∧ (∀ s, Maps.has D (kyl s) = memb L s) ∧ Maps.size D = L.length
theorem Mst.made (w : World) : Mst (w.alloc (.map #[] 0)) w.heap.size 0 [] := ⟨List.nodup_nil, .map [], World.ownsMap_made _ _ _ _, fun _ => rfl, rfl⟩
theorem Mst.block {w w' : World} {B n : Nat} {L : List ByteArray} (h : Mst w B n L) (hb : w'.heap[B]? = w.heap[B]?) : Mst w' B n L := by
  obtain ⟨h0, D, ⟨es, clock, h1, h2⟩, h3⟩ := h
  exact ⟨h0, D, ⟨es, clock, hb.trans h1, h2⟩, h3⟩
theorem Mst.lt {w : World} {B n : Nat} {L : List ByteArray} (h : Mst w B n L) : B < w.heap.size := by
  obtain ⟨_, D, h1, _⟩ := h
  exact h1.lt
theorem Mst.next {w w' : World} {B n : Nat} {L : List ByteArray} (h : Mst w B n L) (hb : Below w.heap.size w w') : Mst w' B n L := h.block (hb.block _ h.lt)
theorem Mst.kp {w w' : World} {B n : Nat} {L : List ByteArray} {S : Nat → Prop} (h : Mst w B n L) (hk : Kp S w w') (hs : ¬ S B) : Mst w' B n L := h.block (hk.block _ h.lt hs)
theorem Mst.len {w : World} {B n : Nat} {L : List ByteArray} (h : Mst w B n L) (ty : TypeId) : (Builtin.len_ #[90] ty #[.map (some B)]).run Tryz.prog w = .ok (.int .i64 (L.length : Nat)) w := by
  obtain ⟨_, D, h1, _, h3⟩ := h
  rw [h1.len Tryz.underlying90 ty, h3]
theorem Mst.look {w : World} {B n : Nat} {L : List ByteArray} (h : Mst w B n L) {s : ByteArray} (hs : s.size ≤ 140737488351232) : (Instr.lookup 90 (.map (some B)) (.string s) true).run Tryz.prog w = .ok (.tuple #[.agg #[], .bool (memb L s)]) w := by
  obtain ⟨_, D, h1, h2, _⟩ := h
  obtain ⟨v, ps, hrun, hv⟩ := h1.look_ok lawS Tryz.underlying90 (zeroU w) unitElem_mk (keyS hs)
  obtain ⟨rfl, _⟩ := unitElem_inv hv
  rw [hrun, h2 s]
def putL (L : List ByteArray) (s : ByteArray) : List ByteArray := if memb L s = true then L else s :: L
theorem putL_mem {L : List ByteArray} {s t : ByteArray} : t ∈ putL L s ↔ t = s ∨ t ∈ L := by
  unfold putL
  split
  · rename_i h
    exact ⟨.inr, fun e => e.elim (fun e => by rw [e]; exact memb_iff.1 h) id⟩
  · exact List.mem_cons
theorem Mst.put {w : World} {B n : Nat} {L : List ByteArray} (h : Mst w B n L) {s : ByteArray} (hs : s.size ≤ 140737488351232) (hn : n < 140737488351232) :
    ∃ w', (Instr.mapUpdate 90 (.map (some B)) (.string s) (.agg #[])).run Tryz.prog w = .ok () w' ∧ Mst w' B (n + 1) (putL L s) ∧ Kp (fun q => q = B) w w' := by
  obtain ⟨h0, D, h1, h2, h3⟩ := h
  obtain ⟨w', hrun, h4, h5⟩ := h1.update lawS Tryz.underlying90 (by unfold maxLen; omega) (keyS hs) unitElem_mk
  refine ⟨w', hrun, ⟨?_, _, h4, fun t => ?_, ?_⟩, ⟨h5.os, h5.tape, h5.output, h5.size, fun k hk hne => h5.block k hk (fun e => hne (by injection e))⟩⟩
  · unfold putL
    split
    · exact h0
    · rename_i hne
      exact List.nodup_cons.2 ⟨fun e => hne (memb_iff.2 e), h0⟩
  · by_cases ht : t = s
    · subst ht
      rw [Maps.has_put_same h1.isMap (isKeyL t)]
      exact (memb_iff.2 (putL_mem.2 (.inl rfl))).symm
    · rw [Maps.has_put_other (kyl_ne ht), h2 t]
      rw [Bool.eq_iff_iff, memb_iff, memb_iff, putL_mem]
      exact ⟨.inr, fun e => e.resolve_left ht⟩
  · rw [Maps.size_put (h1.tidy lawS), h2 s, h3]
    unfold putL
    cases memb L s
    · rfl
    · rfl

section
variable {ops : Array Oper} {rest : List Oper} {o : Oper} {a : Act} {Q : Exit → Act → World → Prop} {w : World}
theorem wpList_lookG (hgd : Region.wanted o (yielded ops a.tmps) = true) {m x : Operand} (ho : o.op = .lookup 74 m x false) {B n : Nat} {g : ByteArray → Option Int} {s : ByteArray} (hm : a.eval m = .map (some B)) (hx : a.eval x = .string s) (h : Mps w B n g) (hs : s.size ≤ 140737488351232)
    (hK : wpList Tryz.prog ops Q rest (a.put o.dst (.int .i64 ((g s).getD 0))) w) : wpList Tryz.prog ops Q (o :: rest) a w := by
  refine wpList_wanted hgd fun K hK' => ?_
  unfold Oper.wp
  simp [execOp, ho, hm, hx, h.look hs, Result.andThen]
  exact hK' _ _ hK
theorem wpList_lookGo (hgd : Region.wanted o (yielded ops a.tmps) = true) {m x : Operand} (ho : o.op = .lookup 74 m x true) {B n : Nat} {g : ByteArray → Option Int} {s : ByteArray} (hm : a.eval m = .map (some B)) (hx : a.eval x = .string s) (h : Mps w B n g) (hs : s.size ≤ 140737488351232)
    (hK : wpList Tryz.prog ops Q rest (a.put o.dst (.tuple #[.int .i64 ((g s).getD 0), .bool (g s).isSome])) w) : wpList Tryz.prog ops Q (o :: rest) a w := by
  refine wpList_wanted hgd fun K hK' => ?_
  unfold Oper.wp
  simp [execOp, ho, hm, hx, h.look_ok hs, Result.andThen]
  exact hK' _ _ hK
theorem wpList_putG (hgd : Region.wanted o (yielded ops a.tmps) = true) {m x v : Operand} (ho : o.op = .mapUpdate 74 m x v) {B n : Nat} {g : ByteArray → Option Int} {s : ByteArray} {i : Int} (hm : a.eval m = .map (some B)) (hx : a.eval x = .string s) (hv : a.eval v = .int .i64 i) (h : Mps w B n g) (hs : s.size ≤ 140737488351232) (hi : (Lit.int .i64 i).wf = true) (hn : n < 140737488351232)
    (hK : ∀ w', Mps w' B (n + 1) (putG g s i) → Kp (fun q => q = B) w w' → wpList Tryz.prog ops Q rest (a.put o.dst undef) w') : wpList Tryz.prog ops Q (o :: rest) a w := by
  refine wpList_wanted hgd fun K hK' => ?_
  obtain ⟨w', hrun, h1, h2⟩ := h.put hs hi hn
  unfold Oper.wp
  simp [execOp, ho, hm, hx, hv, hrun, Result.andThen]
  exact hK' _ _ (hK w' h1 h2)
theorem wpList_lookS (hgd : Region.wanted o (yielded ops a.tmps) = true) {m x : Operand} (ho : o.op = .lookup 90 m x true) {B n : Nat} {L : List ByteArray} {s : ByteArray} (hm : a.eval m = .map (some B)) (hx : a.eval x = .string s) (h : Mst w B n L) (hs : s.size ≤ 140737488351232)
    (hK : wpList Tryz.prog ops Q rest (a.put o.dst (.tuple #[.agg #[], .bool (memb L s)])) w) : wpList Tryz.prog ops Q (o :: rest) a w := by
  refine wpList_wanted hgd fun K hK' => ?_
  unfold Oper.wp
  simp [execOp, ho, hm, hx, h.look hs, Result.andThen]
  exact hK' _ _ hK
theorem wpList_putS (hgd : Region.wanted o (yielded ops a.tmps) = true) {m x v : Operand} (ho : o.op = .mapUpdate 90 m x v) {B n : Nat} {L : List ByteArray} {s : ByteArray} (hm : a.eval m = .map (some B)) (hx : a.eval x = .string s) (hv : a.eval v = .agg #[]) (h : Mst w B n L) (hs : s.size ≤ 140737488351232) (hn : n < 140737488351232)
    (hK : ∀ w', Mst w' B (n + 1) (putL L s) → Kp (fun q => q = B) w w' → wpList Tryz.prog ops Q rest (a.put o.dst undef) w') : wpList Tryz.prog ops Q (o :: rest) a w := by
  refine wpList_wanted hgd fun K hK' => ?_
  obtain ⟨w', hrun, h1, h2⟩ := h.put hs hn
  unfold Oper.wp
  simp [execOp, ho, hm, hx, hv, hrun, Result.andThen]
  exact hK' _ _ (hK w' h1 h2)
theorem wpList_lenS (hgd : Region.wanted o (yielded ops a.tmps) = true) {m : Operand} (ho : o.op = .call { callee := .builtin Builtin.len, args := #[m], argTypes := #[90] }) {B n : Nat} {L : List ByteArray} (hm : a.eval m = .map (some B)) (h : Mst w B n L)
    (hK : wpList Tryz.prog ops Q rest (a.put o.dst (.int .i64 (L.length : Nat))) w) : wpList Tryz.prog ops Q (o :: rest) a w := by
  refine wpList_wanted hgd fun K hK' => ?_
  unfold Oper.wp
  simp [execOp, ho, resolve, invoke, builtin, hm, h.len o.type, Result.andThen]
  exact hK' _ _ hK
end
end
section
open Go.RowKit Go
def ocs : Array Value := #[.string ⟨#[97, 110, 121]⟩, .int .i64 0, .string ⟨#[110, 117, 108, 108]⟩, .int .i64 1, .string ⟨#[98, 111, 111, 108]⟩, .int .i64 2, .string ⟨#[105, 110, 116]⟩, .int .i64 3, .string ⟨#[102, 108, 111, 97, 116]⟩, .int .i64 4, .string ⟨#[115, 105, 110, 103, 108, 101]⟩, .int .i64 4, .string ⟨#[116, 101, 120, 116]⟩, .int .i64 5, .string ⟨#[98, 121, 116, 101, 115]⟩, .int .i64 6, .string ⟨#[108, 105, 110, 107]⟩, .int .i64 7]
structure Otb (w : World) : Prop where
  c : ∀ j u, ocs[j]? = some u → w.cell? ⟨0, 0 + j, none⟩ = some u
theorem Otb.next {w w' : World} (h : Otb w) (hm : ∀ p u, w.cell? p = some u → w'.cell? p = some u) : Otb w' := ⟨fun j u hj => hm _ _ (h.c j u hj)⟩
theorem infoOw : (Tryz.prog.info? 125).map (·.size) = some 18 := by kernel_rfl
theorem aggOw (w : World) : (isAgg 125).run Tryz.prog w = .ok true w := by
  unfold isAgg
  rw [Sem.run_bind, run_underlying Tryz.underlying125 w]
  simp
theorem owns_len : owns.length = 9 := rfl
theorem own_index (w : World) (i : Nat) (n : ByteArray) (k : Nat) (h : owns[i]? = some (n, k)) : (Instr.index 125 (.agg ocs) (.int .i64 (i : Nat))).run Tryz.prog w = .ok (.agg #[.string n, .int .i64 (k : Nat)]) w := by
  rcases i with _ | _ | _ | _ | _ | _ | _ | _ | _ | i
  all_goals first
    | (simp only [owns, List.getElem?_cons_zero, List.getElem?_cons_succ, Option.some.injEq, Prod.mk.injEq] at h
       obtain ⟨rfl, rfl⟩ := h
       kernel_rfl)
    | (simp [owns] at h)
theorem exec_own {o : Oper} {a : Act} {x ix : Operand} {i : Nat} {n : ByteArray} {k : Nat} {w : World} (h : owns[i]? = some (n, k)) (ho : o.op = .index 125 x ix) (hx : a.eval x = .agg ocs) (hi : a.eval ix = .int .i64 (i : Nat)) : (execOp a.eval o).run Tryz.prog w = .ok (.value (.agg #[.string n, .int .i64 (k : Nat)])) w := by
  unfold execOp
  have hr := own_index w i n k h
  simp only [ho, Sem.run_bind, hx, hi, hr, Result.andThen_ok]
  rfl
theorem ownK_at {s : ByteArray} {i : Nat} {k : Nat} (h : owns[i]? = some (s, k)) (hn : ∀ j p, j < i → owns[j]? = some p → p.1 ≠ s) : ownK s = some k := by
  unfold ownK
  have : (owns.find? fun p => decide (p.1 = s)) = some (s, k) := by
    rw [List.find?_eq_some_iff_getElem]
    obtain ⟨hl, he⟩ := List.getElem?_eq_some_iff.1 h
    exact ⟨by simp, i, hl, he, fun j hj => by simpa using hn j _ hj (List.getElem?_eq_getElem (by omega))⟩
  rw [this]
  rfl
theorem ownK_no {s : ByteArray} (hn : ∀ j p, j < 9 → owns[j]? = some p → p.1 ≠ s) : ownK s = none := by
  unfold ownK
  have : (owns.find? fun p => decide (p.1 = s)) = none := by
    rw [List.find?_eq_none]
    intro p hp
    obtain ⟨j, hj, e⟩ := List.getElem_of_mem hp
    have := hn j p (by have := owns_len; omega) (by rw [List.getElem?_eq_getElem hj, e])
    simpa using this
  rw [this]
  rfl
set_option maxRecDepth 1000000 in
set_option maxHeartbeats 1000000 in
theorem ownKind_any (s : ByteArray) (w : World) (hT : Otb w) : Calls Tryz.prog 104 #[.string s] w fun e w' => e = .returned (.tuple #[.int .i64 ((ownK s).getD 0 : Nat), .bool (ownK s).isSome]) ∧ Below w.heap.size w w' := by
  have HT := hide hT.c
  have HI := hide infoOw
  have HA : Hid (∀ w, (isAgg 125).run Tryz.prog w = .ok true w) := aggOw
  clear hT
  go_enter Tryz.func104, Tryz.ntmps104
  go_wp2_with (refine wpList_aggAt rfl rfl HI.out HA.out 0 0 ocs rfl rfl HT.out ?_)
  clear HT HI HA
  have HOC : Hid (ocs = ocs) := rfl
  generalize hoc : ocs = OC at *
  have HOE := hide hoc
  clear hoc HOC
  go_loopw [7] (fun vi wx => ∃ i : Nat, i ≤ 9 ∧ vi = .int .i64 (i : Nat) ∧ Hid (∀ j p, j < i → owns[j]? = some p → p.1 ≠ s) ∧ Hid (Below w.heap.size w wx)) (fun vi _ => 9 - (intOf vi).toNat)
  case atStart => exact ⟨0, by omega, rfl, fun j _ hj => absurd hj (by omega), Below.refl _ _⟩
  case round =>
    obtain ⟨i, hi, rfl, HN, HBw⟩ := hrel
    by_cases hlt : i < 9
    · have g1 : (i : Int) < 9 := by omega
      obtain ⟨⟨n, k⟩, hp⟩ : ∃ p, owns[i]? = some p := ⟨owns[i]'(by have := owns_len; omega), List.getElem?_eq_getElem _⟩
      have HP := hide hp
      have hb1 := below_alloc4 wr (.cells #[.string n, .int .i64 (k : Nat)] 124)
      have HB1 : Hid (Below w.heap.size w (wr.alloc (.cells #[.string n, .int .i64 (k : Nat)] 124))) := HBw.out.trans (hb1.mono HBw.out.size)
      have HEX : Hid (∀ (o : Oper) (a : Act) (x ix : Operand) (w : World), o.op = .index 125 x ix → a.eval x = .agg OC → a.eval ix = .int .i64 (i : Nat) → (execOp a.eval o).run Tryz.prog w = .ok (.value (.agg #[.string n, .int .i64 (k : Nat)])) w) := fun o a x ix w h1 h2 h3 => exec_own hp h1 (h2.trans (by rw [HOE.out])) h3
      clear hp hb1
      by_cases he : n = s
      · have hne : (n.toList == s.toList) = true := by rw [he]; simp
        have HK : Hid (ownK s = some k) := by
          have h := HP.out
          rw [he] at h
          exact ownK_at h HN.out
        clear he
        go_wp2_with (refine wpList_ex rfl (HEX.out _ _ _ _ _ rfl rfl rfl) ?_)
        go_ret2
        exact ⟨by rw [HK.out]; rfl, HB1.out⟩
      · have hne : (n.toList == s.toList) = false := str_no he
        have HN2 : Hid (∀ j p, j < i + 1 → owns[j]? = some p → p.1 ≠ s) := fun j p hj h1 => by
          by_cases hji : j = i
          · subst hji
            rw [HP.out] at h1
            injection h1 with h1
            rw [← h1]
            exact he
          · exact HN.out j p (by omega) h1
        clear he HP HN
        go_wp2_with (refine wpList_ex rfl (HEX.out _ _ _ _ _ rfl rfl rfl) ?_)
        go_roundw
        case rel => exact ⟨i + 1, by omega, by go_num, HN2, HB1⟩
        case measure => simp [intOf]; omega
    · have g1 : ¬ (i : Int) < 9 := by omega
      have HK : Hid (ownK s = none) := ownK_no (fun j p hj => HN.out j p (by omega))
      go_wp2_with fail
      go_ret2
      exact ⟨by rw [HK.out]; rfl, HBw.out⟩
end
end Go.Proofs.YtbbalhfjgpaabaaGreatDoor
