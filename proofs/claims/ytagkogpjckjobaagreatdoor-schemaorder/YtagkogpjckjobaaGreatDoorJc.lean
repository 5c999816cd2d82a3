import Derived.Test.YtagkogpjckjobaaGreatDoorJb
import Derived.Test.YtagkogpjckjobaaGreatDoorJa
import Derived.Laws.StructEq
import Derived.SliceStrings
import Derived.Lib.SmallJoins
import Derived.Laws.ResultCell
import Derived.Laws.MakeOwn
import Derived.Lib.AppendZerosOnto
import Derived.Lib.SliceRun
import Derived.Laws.Concat
import Derived.Deep.CutBlock
import Derived.Test.YtagkogpjckjobaaGreatDoorSlav
import Derived.Lib.ValidLaws
import Derived.Maps.OwnSet
import Derived.Maps.OwnOps
namespace Go.Proofs.YtagkogpjckjobaaGreatDoor
section
open Go.RowKit Go
/-- What regroup has in hand: the digits told, the bits that wait. -/
structure Rg (tt : Nat) (B out R : List Nat) : Prop where
  e : B = out.flatMap (bitsW tt) ++ R
  o : ∀ x ∈ out, x < 2 ^ tt
  r : ∀ x ∈ R, x < 2
theorem Rg.start (tt : Nat) : Rg tt [] [] [] := ⟨rfl, by simp, by simp⟩
theorem Rg.take {tt : Nat} {B out R : List Nat} (h : Rg tt B out R) (hl : tt ≤ R.length) : Rg tt B (out ++ [valB 2 (R.take tt)]) (R.drop tt) := by
  have hl2 : (R.take tt).length = tt := by rw [List.length_take]; omega
  have hb : ∀ x ∈ R.take tt, x < 2 := fun x hx => h.r x (List.mem_of_mem_take hx)
  refine ⟨?_, ?_, fun x hx => h.r x (List.mem_of_mem_drop hx)⟩
  · have e := bitsW_valB (R.take tt) hb
    rw [hl2] at e
    rw [List.flatMap_append, List.flatMap_singleton, e, List.append_assoc, List.take_append_drop]
    exact h.e
  · intro x hx
    rcases List.mem_append.1 hx with hx | hx
    · exact h.o x hx
    · simp only [List.mem_singleton] at hx
      subst hx
      have := valB_lt (b := 2) (by decide) hb
      rwa [hl2] at this
end
section
open Go.RowKit Go
theorem nstr_sl (s : ByteArray) : nstr (sl s) = s := by
  obtain ⟨⟨l⟩⟩ := s
  have e : nstr (sl ⟨⟨l⟩⟩) = ⟨(nstr (sl ⟨⟨l⟩⟩)).data⟩ := rfl
  rw [e]
  congr 1
  apply Array.ext'
  simp only [nstr, sl, strOfNums_data, List.map_map]
  conv => rhs; rw [← List.map_id l]
  apply List.map_congr_left
  intro x _
  simp
theorem nstr_size {xs : List Nat} (h : ∀ x ∈ xs, x < 256) : (nstr xs).size = xs.length := by rw [← sl_len, sl_nstr h]
/-- A link that the program can hold. -/
structure Lkb (l : Lk) : Prop where
  c : l.c < 18446744073709551616
  h : l.h < 18446744073709551616
  d : ∀ x ∈ l.d, x < 256
  n : l.d.length ≤ 9223372036854775807
theorem Lkb.size {l : Lk} (h : Lkb l) : (nstr l.d).size = l.d.length := nstr_size h.d
theorem lk_ext {a b : Lk} : a = b ↔ a.v = b.v ∧ a.c = b.c ∧ a.h = b.h ∧ a.d = b.d := by
  constructor
  · rintro rfl
    exact ⟨rfl, rfl, rfl, rfl⟩
  · obtain ⟨_, _, _, _⟩ := a
    obtain ⟨_, _, _, _⟩ := b
    rintro ⟨h1, h2, h3, h4⟩
    simp only at h1 h2 h3 h4
    subst h1 h2 h3 h4
    rfl
instance : DecidableEq Lk := fun a b => decidable_of_iff _ (lk_ext (a := a) (b := b)).symm
theorem wpList_wanted {P : Program} {ops : Array Oper} {Q : Exit → Act → World → Prop} {a : Act} {w : World} {rest : List Oper} {o : Oper} (hw : Region.wanted o (yielded ops a.tmps) = true)
    (h : ∀ K : Act → World → Prop, (∀ a w, wpList P ops Q rest a w → K a w) → o.wp P a w K Q) : wpList P ops Q (o :: rest) a w := wpList_step fun K hK => by rw [if_pos hw]; exact h K hK
end
section
open Go.ChangeShapes Go.WideShapes Go.ChangeAt Go.RowKit Go.Deep Go.Joins Go
/-- A value, plainly: kind, flag, sign, number, a float's bits, text, bytes, link, keys, items. -/
inductive Tv where
  | mk (k : Int) (f g : Bool) (n b : Nat) (s : ByteArray) (y : List Nat) (l : Lk) (ks : List ByteArray) (is : List Tv)
def Tv.k : Tv → Int | .mk k _ _ _ _ _ _ _ _ _ => k
def Tv.f : Tv → Bool | .mk _ f _ _ _ _ _ _ _ _ => f
def Tv.g : Tv → Bool | .mk _ _ g _ _ _ _ _ _ _ => g
def Tv.n : Tv → Nat | .mk _ _ _ n _ _ _ _ _ _ => n
def Tv.b : Tv → Nat | .mk _ _ _ _ b _ _ _ _ _ => b
def Tv.s : Tv → ByteArray | .mk _ _ _ _ _ s _ _ _ _ => s
def Tv.y : Tv → List Nat | .mk _ _ _ _ _ _ y _ _ _ => y
def Tv.l : Tv → Lk | .mk _ _ _ _ _ _ _ l _ _ => l
def Tv.ks : Tv → List ByteArray | .mk _ _ _ _ _ _ _ _ ks _ => ks
def Tv.is : Tv → List Tv | .mk _ _ _ _ _ _ _ _ _ is => is
/-- A value's cells. -/
def vcs (t : Tv) (vy vk vi : Value) : Array Value :=
  #[.int .i64 t.k, .bool t.f, .bool t.g, .int .u64 (t.n : Nat), .int .u64 (t.b : Nat), .string t.s, vy, .int .i64 t.l.v, .int .u64 (t.l.c : Nat), .int .u64 (t.l.h : Nat), .string (nstr t.l.d), vk, vi]
/-- A slice of strings, plainly. -/
structure SSl (w : World) (v : Value) (ks : List ByteArray) : Prop where
  form : ∃ a cap, v = .slice a ks.length cap ∧ (ks.length ≤ cap ∧ (a = none → cap = 0)) ∧ (ks = [] ∨ ∃ b off, a = some ⟨b, off, none⟩ ∧ ∀ j s, ks[j]? = some s → w.cell? ⟨b, off + j, none⟩ = some (.string s))
  max : ks.length ≤ 140737488351232
  size : ∀ s ∈ ks, s.size ≤ 140737488351232
theorem SSl.move {w w' : World} {v : Value} {ks : List ByteArray} (h : SSl w v ks) (hm : ∀ p u, w.cell? p = some u → w'.cell? p = some u) : SSl w' v ks := by
  obtain ⟨⟨a, c, hv, hn, hc⟩, h1, h2⟩ := h
  refine ⟨⟨a, c, hv, hn, ?_⟩, h1, h2⟩
  rcases hc with hc | ⟨b, off, ha, hc⟩
  · exact .inl hc
  · exact .inr ⟨b, off, ha, fun j s hj => hm _ _ (hc j s hj)⟩
/-- A value in memory: these cells read as this value. -/
inductive Tin (w : World) : Tv → Array Value → Prop
  | mk (t : Tv) (vy vk : Value) (a : Option Addr) (cap : Nat) (cs : Nat → Array Value) (hn : t.n < 18446744073709551616) (hb : t.b < 18446744073709551616) (hs : t.s.size ≤ 140737488351232) (hy : BSl w vy t.y) (hyl : t.y.length ≤ 140737488351232) (hl : Lkb t.l) (hld : t.l.d.length ≤ 140737488351232) (hk : SSl w vk t.ks)
      (hc : t.is.length ≤ cap ∧ (a = none → cap = 0)) (hm : t.is.length ≤ 140737488351232) (hi : ∀ i u, t.is[i]? = some u → Tin w u (cs i))
      (ha : t.is = [] ∨ ∃ b off, a = some ⟨b, off, none⟩ ∧ ∀ i, i < t.is.length → ∀ j u, (cs i)[j]? = some u → w.cell? ⟨b, off + i * 13 + j, none⟩ = some u) : Tin w t (vcs t vy vk (.slice a t.is.length cap))
theorem Tin.move {w w' : World} {t : Tv} {cs : Array Value} (h : Tin w t cs) (hm : ∀ p u, w.cell? p = some u → w'.cell? p = some u) : Tin w' t cs := by
  induction h with
  | mk t vy vk a cap cs hn hb hs hy hyl hl hld hk hc hmm hi ha ih =>
    refine Tin.mk t vy vk a cap cs hn hb hs (hy.move hm) hyl hl hld (hk.move hm) hc hmm ih ?_
    rcases ha with ha | ⟨b, off, e, ha⟩
    · exact .inl ha
    · exact .inr ⟨b, off, e, fun i hi j u hu => hm _ _ (ha i hi j u hu)⟩
/-- A slice of values. -/
structure VSl (w : World) (v : Value) (is : List Tv) : Prop where
  form : ∃ a cap, v = .slice a is.length cap ∧ (is.length ≤ cap ∧ (a = none → cap = 0)) ∧ (is = [] ∨ ∃ b off, a = some ⟨b, off, none⟩ ∧ ∀ i t, is[i]? = some t → ∃ cs, Tin w t cs ∧ ∀ j u, cs[j]? = some u → w.cell? ⟨b, off + i * 13 + j, none⟩ = some u)
  max : is.length ≤ 140737488351232
theorem VSl.move {w w' : World} {v : Value} {is : List Tv} (h : VSl w v is) (hm : ∀ p u, w.cell? p = some u → w'.cell? p = some u) : VSl w' v is := by
  obtain ⟨⟨a, c, hv, hn, hc⟩, h1⟩ := h
  refine ⟨⟨a, c, hv, hn, ?_⟩, h1⟩
  rcases hc with hc | ⟨b, off, ha, hc⟩
  · exact .inl hc
  · exact .inr ⟨b, off, ha, fun i t hi => by
      obtain ⟨cs, h1, h2⟩ := hc i t hi
      exact ⟨cs, h1.move hm, fun j u hu => hm _ _ (h2 j u hu)⟩⟩
end
section
open Go.RowKit Go

end
section
open Go.RowKit Go

end
section
open Go.RowKit Go

end
section
open Go.RowKit Go

end
section
open Go.RowKit Go

end
section
open Go.RowKit Go

end
section
open Go.RowKit Go

end
section
open Go.RowKit Go

end
section
open Go.RowKit Go

end
section
open Go.RowKit Go

end
section
open Go.RowKit Go

end
section
open Go.RowKit Go

end
section
open Go.RowKit Go

end
section
open Go.RowKit Go

end
section
open Go.RowKit Go

end
section
open Go.RowKit Go

end
section
open Go.RowKit Go

end
section
open Go.RowKit Go

end
section
open Go.RowKit Go

end
section
open Go.RowKit Go

end
section
open Go.RowKit Go

end
section
open Go.RowKit Go
/-- The library's tables of UTF-8 lie as its text lays them. -/
def Tabs (w : World) : Prop := Lib.Utf8Tabs (Tryz.laysValid_ren.g 3) (Tryz.laysValid_ren.g 4) w
theorem Tabs.next {w w' : World} (h : Tabs w) (hb : Below w.heap.size w w') : Tabs w' := Utf8Tabs_below h hb
/-- No good UTF-8. -/
def badb (s : ByteArray) : Bool := !Lib.validD s.data.toList
theorem valid_any (s : ByteArray) (w : World) (hs : s.size ≤ 140737488351232) (hT : Tabs w) : Calls Tryz.prog 100 #[.string s] w fun e w' => e = .returned (.bool (!badb s)) ∧ Below w.heap.size w w' := by
  unfold badb
  rw [Bool.not_not]
  exact Any.utf8_ValidString Tryz.laysValid s w (by omega) hT
end
section
open Go.RowKit Go

end
section
open Go.RowKit Go
/-! ### Types plainly -/
/-- A reference: a name, and whether null is taken beside it. -/
structure Rf where
  n : ByteArray
  z : Bool
/-- A field. -/
structure Fd where
  n : ByteArray
  k : ByteArray
  r : Rf
  m : Bool
/-- A case. -/
structure Cz where
  k : ByteArray
  n : ByteArray
/-- A type. -/
structure Tp where
  n : ByteArray
  k : Int
  lo : Int
  hi : Int
  r : Rf
  fs : List Fd
  cs : List Cz
  ws : List ByteArray
def zrf : Rf := ⟨⟨#[]⟩, false⟩
def ztp : Tp := ⟨⟨#[]⟩, 0, 0, 0, zrf, [], [], []⟩
/-- A built-in name alone. -/
def otp (s : ByteArray) : Tp := ⟨s, 0, 0, 0, zrf, [], [], []⟩
def nAny : ByteArray := ⟨#[97, 110, 121]⟩
def nNull : ByteArray := ⟨#[110, 117, 108, 108]⟩
/-- The names that are built in, each with the kind of its trees. -/
def owns : List (ByteArray × Nat) := [(⟨#[97, 110, 121]⟩, 0), (⟨#[110, 117, 108, 108]⟩, 1), (⟨#[98, 111, 111, 108]⟩, 2), (⟨#[105, 110, 116]⟩, 3), (⟨#[102, 108, 111, 97, 116]⟩, 4), (⟨#[115, 105, 110, 103, 108, 101]⟩, 4), (⟨#[116, 101, 120, 116]⟩, 5), (⟨#[98, 121, 116, 101, 115]⟩, 6), (⟨#[108, 105, 110, 107]⟩, 7)]
def ownK (s : ByteArray) : Option Nat := (owns.find? fun p => decide (p.1 = s)).map (·.2)
/-- The first place of a name. -/
def plc : List Tp → ByteArray → Option Nat
  | [], _ => none
  | t :: r, s => if t.n = s then some 0 else (plc r s).map (· + 1)
/-- What a name is in a list. -/
def fnd (l : List Tp) (s : ByteArray) : Tp × Bool := match plc l s with
  | some i => (l.getD i ztp, true)
  | none => if (ownK s).isSome then (otp s, true) else (ztp, false)
/-- What following a name comes to, by so many steps. -/
def flw (l : List Tp) : Nat → ByteArray → Bool → ByteArray × Bool
  | 0, _, _ => (⟨#[]⟩, false)
  | k + 1, s, z => if (fnd l s).1.k ≠ 1 then (s, z || decide (s = nAny) || decide (s = nNull)) else flw l k (fnd l s).1.r.n (z || (fnd l s).1.r.z)
def flo (l : List Tp) (s : ByteArray) : ByteArray × Bool := flw l (l.length + 1) s false
/-- The one kind of a type's trees. -/
def knd (t : Tp) : Nat := if t.k = 2 then 3 else if t.k = 3 ∨ t.k = 6 then 8 else if t.k = 4 ∨ t.k = 5 ∨ t.k = 7 then 9 else if t.k = 9 then 5 else (ownK t.n).getD 0
/-- A byte of a name. -/
def nby (c : Nat) : Bool := decide (97 ≤ c ∧ c ≤ 122) || decide (65 ≤ c ∧ c ≤ 90) || decide (48 ≤ c ∧ c ≤ 57) || decide (c = 45) || decide (c = 46) || decide (c = 95)
def nbl (s : ByteArray) : Bool := decide (0 < s.size) && decide (s.size ≤ 64) && s.data.toList.all fun c => nby c.toNat
/-- The fields that a type's kind does not use are zero. -/
def tdy (t : Tp) : Bool :=
  let k := t.k
  decide (1 ≤ k ∧ k ≤ 9) && (decide (k = 2 ∨ k = 3 ∨ k = 4) || decide (t.lo = 0 ∧ t.hi = 0)) && (decide (k = 1 ∨ k = 3 ∨ k = 4) || decide (t.r.n = ⟨#[]⟩ ∧ t.r.z = false))
    && (decide (k = 5 ∨ k = 6) || t.fs.isEmpty) && (decide (k = 7 ∨ k = 8) || t.cs.isEmpty) && (decide (k = 9) || t.ws.isEmpty)
/-- What a type speaks of. -/
def rfs (t : Tp) : List Rf := (if t.k = 1 ∨ t.k = 3 ∨ t.k = 4 then [t.r] else []) ++ t.fs.map (·.r) ++ t.cs.map (fun c => ⟨c.n, false⟩)
/-- Does a text stand in a row? -/
def memb (L : List ByteArray) (s : ByteArray) : Bool := L.any fun t => decide (t = s)
theorem memb_iff {L : List ByteArray} {s : ByteArray} : memb L s = true ↔ s ∈ L := by
  unfold memb
  rw [List.any_eq_true]
  exact ⟨fun ⟨x, h1, h2⟩ => by rw [← of_decide_eq_true h2]; exact h1, fun h => ⟨s, h, by simp⟩⟩
/-- Is a text of a row no good one, or does it stand there ahead? -/
def stray (seen : List ByteArray) (s : ByteArray) : Bool := memb seen s || badb s
/-- A row of texts, good ones, each once. -/
def goodT : List ByteArray → List ByteArray → Bool
  | _, [] => true
  | seen, s :: r => !stray seen s && goodT (s :: seen) r
/-- A struct's or a tuple's fields, one behind the other. -/
def ffs (k : Int) : List ByteArray → List ByteArray → Bool → List Fd → Bool
  | _, _, _, [] => true
  | ns, ks, mb, f :: r =>
    if !nbl f.n || stray ns f.n then false
    else if decide (k = 5) && stray ks f.k then false
    else if decide (k = 6) && (decide (f.k ≠ ⟨#[]⟩) || mb && !f.m) then false
    else ffs k (f.n :: ns) (if k = 5 then f.k :: ks else ks) f.m r
def fft (t : Tp) : Bool := decide (t.fs.length ≤ 64) && ffs t.k [] [] false t.fs
def some64 (n : Nat) : Bool := decide (0 < n) && decide (n ≤ 64)
def cft (t : Tp) : Bool :=
  if t.k = 7 then some64 t.cs.length && goodT [] (t.cs.map (·.k))
  else if t.k = 8 then some64 t.cs.length && t.cs.all fun c => decide (c.k = ⟨#[]⟩)
  else if t.k = 9 then some64 t.ws.length && goodT [] t.ws
  else true
/-- The first look's error of a type. -/
def aln (l : List Tp) (i : Nat) (t : Tp) : Nat :=
  if !nbl t.n || (ownK t.n).isSome || decide ((plc l t.n).getD 0 < i) then 111
  else if !tdy t then 112
  else if t.lo > t.hi ∨ (t.lo < 0 ∧ t.k ≠ 2) then 113
  else if (rfs t).any fun r => !(fnd l r.n).2 then 114
  else if !fft t then 115
  else if !cft t then 116
  else 0
def rng (l : List Tp) (t : Tp) : Nat := if flo l t.n = (⟨#[]⟩, false) then 117 else 0
/-- Does each case have a kind of its own? -/
def kap (l : List Tp) : List Nat → List Cz → Bool
  | _, [] => true
  | seen, c :: r =>
    let e := flo l c.n
    let k := knd (fnd l e.1).1
    if e.2 || decide (k = 0) || seen.contains k then false else kap l (k :: seen) r
def tgt (l : List Tp) (t : Tp) : Nat :=
  if (rfs t).any fun r => r.z && (flo l r.n).2 then 118
  else if t.k = 8 ∧ kap l [] t.cs = false then 116
  else 0
/-- The first error of a look, and its place. -/
def lk1 (f : Nat → Tp → Nat) : Nat → List Tp → Option (Nat × Nat)
  | _, [] => none
  | i, t :: r => if f i t ≠ 0 then some (f i t, i) else lk1 f (i + 1) r
/-- Check. -/
def chk11 (l : List Tp) : Nat × Nat :=
  if 64 < l.length then (110, 0)
  else match lk1 (aln l) 0 l with
    | some r => r
    | none => match lk1 (fun _ t => rng l t) 0 l with
      | some r => r
      | none => match lk1 (fun _ t => tgt l t) 0 l with
        | some r => r
        | none => (0, 0)
end
section
open Go.RowKit Go
/-- A row of things, each of n cells. -/
structure GSl {α : Type} (n : Nat) (P : World → α → Array Value → Prop) (w : World) (v : Value) (xs : List α) : Prop where
  form : ∃ a cap, v = .slice a xs.length cap ∧ (xs.length ≤ cap ∧ (a = none → cap = 0)) ∧ (xs = [] ∨ ∃ b off, a = some ⟨b, off, none⟩ ∧ ∀ i x, xs[i]? = some x → ∃ c, P w x c ∧ ∀ j u, c[j]? = some u → w.cell? ⟨b, off + i * n + j, none⟩ = some u)
  max : xs.length ≤ 140737488351232
theorem GSl.move {α : Type} {n : Nat} {P : World → α → Array Value → Prop} {w w' : World} {v : Value} {xs : List α} (h : GSl n P w v xs) (hP : ∀ x c, P w x c → P w' x c) (hm : ∀ p u, w.cell? p = some u → w'.cell? p = some u) : GSl n P w' v xs := by
  obtain ⟨⟨a, cap, hv, hn, hc⟩, h1⟩ := h
  refine ⟨⟨a, cap, hv, hn, ?_⟩, h1⟩
  rcases hc with hc | ⟨b, off, ha, hc⟩
  · exact .inl hc
  · exact .inr ⟨b, off, ha, fun i x hi => by
      obtain ⟨c, h2, h3⟩ := hc i x hi
      exact ⟨c, hP x c h2, fun j u hj => hm _ _ (h3 j u hj)⟩⟩
theorem GSl.nil {α : Type} {n : Nat} {P : World → α → Array Value → Prop} {w : World} : GSl n P w (.slice none 0 0) [] := ⟨⟨none, 0, rfl, ⟨Nat.le_refl _, fun _ => rfl⟩, .inl rfl⟩, Nat.zero_le _⟩
/-! ### Whole structs -/
/-- A struct somewhere in a block. -/
theorem load_agg {w : World} {T n : Nat} (hi : (Tryz.prog.info? T).map (·.size) = some n) (ha : ∀ w, (isAgg T).run Tryz.prog w = .ok true w) (g o : Nat) (cs : Array Value) (hn : cs.size = n) (hc : ∀ j u, cs[j]? = some u → w.cell? ⟨g, o + j, none⟩ = some u) : (Instr.loadAt T (.pointer (some ⟨g, o, none⟩))).run Tryz.prog w = .ok (.agg cs) w := by
  have hl := run_loadCells_list (P := Tryz.prog) (w := w) ⟨g, o, none⟩ cs.toList (fun j v hv => by rw [addr_add]; exact hc j v (by simpa using hv))
  simp only [Instr.loadAt, Instr.sureAddr, Sem.run_bind, Sem.run_pure, Result.andThen]
  cases hq : Tryz.prog.info? T with
  | none => simp [hq] at hi
  | some i =>
    have hs : i.size = n := by simpa [hq] using hi
    have hn2 : cs.toList.length = n := by simpa using hn
    rw [hn2] at hl
    simp [loadVar, ha w, sizeOf, typeInfo, hq, hs, hl]
theorem wpList_aggAt {ops : Array Oper} {rest : List Oper} {o : Oper} {a : Act} {Q : Exit → Act → World → Prop} {w : World} {p : Operand} {T n : Nat} (hgd : Region.wanted o (yielded ops a.tmps) = true) (ho : o.op = .load T p) (hi : (Tryz.prog.info? T).map (·.size) = some n) (ha : ∀ w, (isAgg T).run Tryz.prog w = .ok true w) (g off : Nat) (cs : Array Value)
    (hp : a.eval p = .pointer (some ⟨g, off, none⟩)) (hn : cs.size = n) (hc : ∀ j u, cs[j]? = some u → w.cell? ⟨g, off + j, none⟩ = some u)
    (h : wpList Tryz.prog ops Q rest (a.put o.dst (.agg cs)) w) : wpList Tryz.prog ops Q (o :: rest) a w := by
  refine wpList_wanted hgd fun K hK => ?_
  unfold Oper.wp execOp
  simp only [ho, Sem.run_bind, hp, load_agg hi ha g off cs hn hc, Result.andThen_ok]
  exact hK _ _ h
theorem exec_aggAt {o : Oper} {a : Act} {p : Operand} {g off : Nat} {cs : Array Value} {w : World} {T n : Nat} (hi : (Tryz.prog.info? T).map (·.size) = some n) (ha : ∀ w, (isAgg T).run Tryz.prog w = .ok true w) (ho : o.op = .load T p) (hp : a.eval p = .pointer (some ⟨g, off, none⟩)) (hn : cs.size = n) (hc : ∀ j u, cs[j]? = some u → w.cell? ⟨g, off + j, none⟩ = some u) : (execOp a.eval o).run Tryz.prog w = .ok (.value (.agg cs)) w := by
  unfold execOp
  have hr := load_agg (w := w) hi ha g off cs hn hc
  simp only [ho, Sem.run_bind, hp, hr, Result.andThen_ok]
  rfl
end
section
open Go.RowKit Go
/-! ### Types in memory -/
def fdc (f : Fd) : Array Value := #[.string f.n, .string f.k, .string f.r.n, .bool f.r.z, .bool f.m]
def czc (c : Cz) : Array Value := #[.string c.k, .string c.n]
def rfc (r : Rf) : Array Value := #[.string r.n, .bool r.z]
def tpc (t : Tp) (vf vc vw : Value) : Array Value := #[.string t.n, .int .i64 t.k, .int .i64 t.lo, .int .i64 t.hi, .string t.r.n, .bool t.r.z, vf, vc, vw]
def Fdi (_ : World) (f : Fd) (c : Array Value) : Prop := c = fdc f ∧ f.n.size ≤ 140737488351232 ∧ f.k.size ≤ 140737488351232 ∧ f.r.n.size ≤ 140737488351232
def Czi (_ : World) (x : Cz) (c : Array Value) : Prop := c = czc x ∧ x.k.size ≤ 140737488351232 ∧ x.n.size ≤ 140737488351232
def Rfi (_ : World) (r : Rf) (c : Array Value) : Prop := c = rfc r ∧ r.n.size ≤ 140737488351232
abbrev FSl (w : World) (v : Value) (fs : List Fd) : Prop := GSl 5 Fdi w v fs
abbrev CSl (w : World) (v : Value) (cs : List Cz) : Prop := GSl 2 Czi w v cs
abbrev RSl (w : World) (v : Value) (rs : List Rf) : Prop := GSl 2 Rfi w v rs
/-- What holds of a type's own numbers and texts. -/
structure Tpb (t : Tp) : Prop where
  n : t.n.size ≤ 140737488351232
  r : t.r.n.size ≤ 140737488351232
  k : -9223372036854775808 ≤ t.k ∧ t.k ≤ 9223372036854775807
  lo : -9223372036854775808 ≤ t.lo ∧ t.lo ≤ 9223372036854775807
  hi : -9223372036854775808 ≤ t.hi ∧ t.hi ≤ 9223372036854775807
structure Tpi (w : World) (t : Tp) (c : Array Value) : Prop where
  ex : ∃ vf vc vw, c = tpc t vf vc vw ∧ FSl w vf t.fs ∧ CSl w vc t.cs ∧ SSl w vw t.ws
  b : Tpb t
theorem Tpi.move {w w' : World} {t : Tp} {c : Array Value} (h : Tpi w t c) (hm : ∀ p u, w.cell? p = some u → w'.cell? p = some u) : Tpi w' t c := by
  obtain ⟨⟨vf, vc, vw, e, h1, h2, h3⟩, hb⟩ := h
  exact ⟨⟨vf, vc, vw, e, h1.move (fun _ _ h => h) hm, h2.move (fun _ _ h => h) hm, h3.move hm⟩, hb⟩
theorem Tpi.size9 {w : World} {t : Tp} {c : Array Value} (h : Tpi w t c) : c.size = 9 := by
  obtain ⟨⟨_, _, _, rfl, _⟩, _⟩ := h
  rfl
theorem Tpi.all1 {w : World} {t : Tp} {c : Array Value} (h : Tpi w t c) : c.all (·.oneCell') = true := by
  obtain ⟨⟨_, _, _, rfl, ⟨⟨_, _, rfl, _⟩, _⟩, ⟨⟨_, _, rfl, _⟩, _⟩, ⟨⟨_, _, rfl, _⟩, _, _⟩⟩, _⟩ := h
  simp [tpc, Value.oneCell']
abbrev TSl (w : World) (v : Value) (ts : List Tp) : Prop := GSl 9 Tpi w v ts
theorem TSl.mv {w w' : World} {v : Value} {ts : List Tp} (h : TSl w v ts) (hm : ∀ p u, w.cell? p = some u → w'.cell? p = some u) : TSl w' v ts := GSl.move h (fun _ _ h => h.move hm) hm
theorem FSl.mv {w w' : World} {v : Value} {fs : List Fd} (h : FSl w v fs) (hm : ∀ p u, w.cell? p = some u → w'.cell? p = some u) : FSl w' v fs := GSl.move h (fun _ _ h => h) hm
theorem CSl.mv {w w' : World} {v : Value} {cs : List Cz} (h : CSl w v cs) (hm : ∀ p u, w.cell? p = some u → w'.cell? p = some u) : CSl w' v cs := GSl.move h (fun _ _ h => h) hm
theorem RSl.mv {w w' : World} {v : Value} {rs : List Rf} (h : RSl w v rs) (hm : ∀ p u, w.cell? p = some u → w'.cell? p = some u) : RSl w' v rs := GSl.move h (fun _ _ h => h) hm

theorem infoTp : (Tryz.prog.info? 29).map (·.size) = some 9 := by kernel_rfl
theorem infoFd : (Tryz.prog.info? 80).map (·.size) = some 5 := by kernel_rfl
theorem infoCz : (Tryz.prog.info? 82).map (·.size) = some 2 := by kernel_rfl
theorem infoRf : (Tryz.prog.info? 24).map (·.size) = some 2 := by kernel_rfl
theorem aggTp (w : World) : (isAgg 29).run Tryz.prog w = .ok true w := by
  unfold isAgg
  rw [Sem.run_bind, run_underlying Tryz.underlying29 w]
  simp
theorem aggFd (w : World) : (isAgg 80).run Tryz.prog w = .ok true w := by
  unfold isAgg
  rw [Sem.run_bind, run_underlying Tryz.underlying80 w]
  simp
theorem aggCz (w : World) : (isAgg 82).run Tryz.prog w = .ok true w := by
  unfold isAgg
  rw [Sem.run_bind, run_underlying Tryz.underlying82 w]
  simp
theorem aggRf (w : World) : (isAgg 24).run Tryz.prog w = .ok true w := by
  unfold isAgg
  rw [Sem.run_bind, run_underlying Tryz.underlying24 w]
  simp
end
section
open Go.RowKit Go
theorem infoTp3 : (Tryz.prog.info? 29).map (fun i => (i.zero, i.size, i.bytes)) = some (some (.agg #[.string ⟨#[]⟩, .int .i64 0, .int .i64 0, .int .i64 0, .string ⟨#[]⟩, .bool false, .slice none 0 0, .slice none 0 0, .slice none 0 0]), 9, 136) := by kernel_rfl
end
section
open Go.RowKit Go
theorem wpList_ex {ops : Array Oper} {rest : List Oper} {o : Oper} {a : Act} {Q : Exit → Act → World → Prop} {w : World} {v : Value} (hgd : Region.wanted o (yielded ops a.tmps) = true) (he : (execOp a.eval o).run Tryz.prog w = .ok (.value v) w) (h : wpList Tryz.prog ops Q rest (a.put o.dst v) w) : wpList Tryz.prog ops Q (o :: rest) a w := by
  refine wpList_wanted hgd fun K hK => ?_
  unfold Oper.wp
  rw [he]
  exact hK _ _ h
theorem str_no {s t : ByteArray} (he : s ≠ t) : (s.toList == t.toList) = false := by
  rw [beq_eq_false_iff_ne]
  intro h
  rw [ByteArray.toList_eq, ByteArray.toList_eq] at h
  obtain ⟨⟨l⟩⟩ := s
  obtain ⟨⟨m⟩⟩ := t
  simp only at h
  exact he (by rw [h])
theorem str_yes (s : ByteArray) : (s.toList == s.toList) = true := by simp
/-! ### Maps by texts -/
theorem lawS : Maps.Keyed Tryz.prog 9 := Maps.string_keyed Tryz.underlying9
theorem zeroI (w : World) : (zeroValue 3).run Tryz.prog w = .ok (.int .i64 0) w := by kernel_rfl
theorem zeroU (w : World) : (zeroValue 57).run Tryz.prog w = .ok (.agg #[]) w := by kernel_rfl
def kyl (s : ByteArray) : Lit := .string s.data.toList
theorem kyl_ne {s t : ByteArray} (h : s ≠ t) : kyl s ≠ kyl t := fun e => h (by
  unfold kyl at e
  injection e with e
  obtain ⟨⟨l⟩⟩ := s
  obtain ⟨⟨m⟩⟩ := t
  simp only at e
  rw [e])
theorem keyS {s : ByteArray} (h : s.size ≤ 140737488351232) : keyOf Tryz.prog 9 (.string s) = some (kyl s) := WideMaps.keyOf_string_mk Tryz.underlying9 (by unfold maxLen; omega)
theorem isKeyL (s : ByteArray) : WideAt.IsKeyLit (kyl s) := trivial
/-- A map from texts to numbers. -/
def Mps (w : World) (B n : Nat) (g : ByteArray → Option Int) : Prop := ∃ D : DataW Unit, w.ownsMap Tryz.prog 9 (plainElem Tryz.prog 3) B n D ∧ ∀ s, Maps.has D (kyl s) = (g s).isSome ∧ ∀ i, g s = some i → D.atKey (kyl s) (.lit (.int .i64 0)) = .lit (.int .i64 i)
theorem Mps.made (w : World) : Mps (w.alloc (.map #[] 0)) w.heap.size 0 (fun _ => none) := ⟨.map [], World.ownsMap_made _ _ _ _, fun _ => ⟨rfl, fun _ h => by cases h⟩⟩
theorem Mps.block {w w' : World} {B n : Nat} {g : ByteArray → Option Int} (h : Mps w B n g) (hb : w'.heap[B]? = w.heap[B]?) : Mps w' B n g := by
  obtain ⟨D, ⟨es, clock, h1, h2⟩, h3⟩ := h
  exact ⟨D, ⟨es, clock, hb.trans h1, h2⟩, h3⟩
theorem Mps.lt {w : World} {B n : Nat} {g : ByteArray → Option Int} (h : Mps w B n g) : B < w.heap.size := by
  obtain ⟨D, h1, _⟩ := h
  exact h1.lt
theorem Mps.next {w w' : World} {B n : Nat} {g : ByteArray → Option Int} (h : Mps w B n g) (hb : Below w.heap.size w w') : Mps w' B n g := h.block (hb.block _ h.lt)
theorem Mps.kp {w w' : World} {B n : Nat} {g : ByteArray → Option Int} {S : Nat → Prop} (h : Mps w B n g) (hk : Kp S w w') (hs : ¬ S B) : Mps w' B n g := h.block (hk.block _ h.lt hs)
theorem Mps.look {w : World} {B n : Nat} {g : ByteArray → Option Int} (h : Mps w B n g) {s : ByteArray} (hs : s.size ≤ 140737488351232) : (Instr.lookup 53 (.map (some B)) (.string s) false).run Tryz.prog w = .ok (.int .i64 ((g s).getD 0)) w := by
  obtain ⟨D, h1, h2⟩ := h
  obtain ⟨c, hrun, hat, _⟩ := h1.lookup_int lawS Tryz.underlying53 Tryz.underlying3 (zeroI w) (keyS hs)
  rw [hrun]
  obtain ⟨h3, h4⟩ := h2 s
  cases hg : g s with
  | none =>
    rw [hg] at h3
    rw [Maps.atKey_of_not_has h3] at hat
    have he := (Lit.int.inj (DataW.lit.inj hat)).2
    rw [← he]
    rfl
  | some i =>
    rw [h4 i hg] at hat
    have he := (Lit.int.inj (DataW.lit.inj hat)).2
    rw [← he]
    rfl
theorem Mps.look_ok {w : World} {B n : Nat} {g : ByteArray → Option Int} (h : Mps w B n g) {s : ByteArray} (hs : s.size ≤ 140737488351232) : (Instr.lookup 53 (.map (some B)) (.string s) true).run Tryz.prog w = .ok (.tuple #[.int .i64 ((g s).getD 0), .bool (g s).isSome]) w := by
  obtain ⟨D, h1, h2⟩ := h
  obtain ⟨v, ps, hrun, hv⟩ := h1.look_ok lawS Tryz.underlying53 (zeroI w) (plainElem_int Tryz.underlying3 (by decide)) (keyS hs)
  obtain ⟨c, rfl, hc, _⟩ := plainElem_int_inv Tryz.underlying3 hv
  have hat := congrArg Prod.fst hc
  simp only at hat
  rw [hrun]
  obtain ⟨h3, h4⟩ := h2 s
  rw [h3]
  cases hg : g s with
  | none =>
    rw [hg] at h3
    rw [Maps.atKey_of_not_has h3] at hat
    have he := (Lit.int.inj (DataW.lit.inj hat)).2
    rw [← he]
    rfl
  | some i =>
    rw [h4 i hg] at hat
    have he := (Lit.int.inj (DataW.lit.inj hat)).2
    rw [← he]
    rfl
/-- What a map tells, one entry laid. -/
def putG (g : ByteArray → Option Int) (s : ByteArray) (i : Int) : ByteArray → Option Int := fun t => if t = s then some i else g t
theorem Mps.put {w : World} {B n : Nat} {g : ByteArray → Option Int} (h : Mps w B n g) {s : ByteArray} (hs : s.size ≤ 140737488351232) {i : Int} (hi : (Lit.int .i64 i).wf = true) (hn : n < 140737488351232) :
    ∃ w', (Instr.mapUpdate 53 (.map (some B)) (.string s) (.int .i64 i)).run Tryz.prog w = .ok () w' ∧ Mps w' B (n + 1) (putG g s i) ∧ Kp (fun q => q = B) w w' := by
  obtain ⟨D, h1, h2⟩ := h
  obtain ⟨w', hrun, h3, h4⟩ := h1.update lawS Tryz.underlying53 (by unfold maxLen; omega) (keyS hs) (plainElem_int Tryz.underlying3 hi)
  refine ⟨w', hrun, ⟨_, h3, fun t => ?_⟩, ⟨h4.os, h4.tape, h4.output, h4.size, fun k hk hne => h4.block k hk (fun e => hne (by injection e))⟩⟩
  unfold putG
  by_cases ht : t = s
  · subst ht
    rw [if_pos rfl]
    exact ⟨Maps.has_put_same h1.isMap (isKeyL t) _, fun j hj => by
      rw [← Option.some.inj hj]
      exact Maps.atKey_put_same h1.isMap (isKeyL t) _ _⟩
  · rw [if_neg ht, Maps.has_put_other (kyl_ne ht)]
    refine ⟨(h2 t).1, fun j hj => ?_⟩
    rw [Maps.atKey_put_other (kyl_ne ht)]
    exact (h2 t).2 j hj
/-- A set of texts: each once. -/
def Mst (w : World) (B n : Nat) (L : List ByteArray) : Prop := L.Nodup ∧ ∃ D : DataW Unit, w.ownsMap Tryz.prog 9 unitElem B n D ∧ (∀ s, Maps.has D (kyl s) = memb L s) ∧ Maps.size D = L.length
theorem Mst.made (w : World) : Mst (w.alloc (.map #[] 0)) w.heap.size 0 [] := ⟨List.nodup_nil, .map [], World.ownsMap_made _ _ _ _, fun _ => rfl, rfl⟩
theorem Mst.block {w w' : World} {B n : Nat} {L : List ByteArray} (h : Mst w B n L) (hb : w'.heap[B]? = w.heap[B]?) : Mst w' B n L := by
  obtain ⟨h0, D, ⟨es, clock, h1, h2⟩, h3⟩ := h
  exact ⟨h0, D, ⟨es, clock, hb.trans h1, h2⟩, h3⟩
theorem Mst.lt {w : World} {B n : Nat} {L : List ByteArray} (h : Mst w B n L) : B < w.heap.size := by
  obtain ⟨_, D, h1, _⟩ := h
  exact h1.lt
theorem Mst.next {w w' : World} {B n : Nat} {L : List ByteArray} (h : Mst w B n L) (hb : Below w.heap.size w w') : Mst w' B n L := h.block (hb.block _ h.lt)
theorem Mst.kp {w w' : World} {B n : Nat} {L : List ByteArray} {S : Nat → Prop} (h : Mst w B n L) (hk : Kp S w w') (hs : ¬ S B) : Mst w' B n L := h.block (hk.block _ h.lt hs)
theorem Mst.len {w : World} {B n : Nat} {L : List ByteArray} (h : Mst w B n L) (ty : TypeId) : (Builtin.len_ #[69] ty #[.map (some B)]).run Tryz.prog w = .ok (.int .i64 (L.length : Nat)) w := by
  obtain ⟨_, D, h1, _, h3⟩ := h
  rw [h1.len Tryz.underlying69 ty, h3]
theorem Mst.look {w : World} {B n : Nat} {L : List ByteArray} (h : Mst w B n L) {s : ByteArray} (hs : s.size ≤ 140737488351232) : (Instr.lookup 69 (.map (some B)) (.string s) true).run Tryz.prog w = .ok (.tuple #[.agg #[], .bool (memb L s)]) w := by
  obtain ⟨_, D, h1, h2, _⟩ := h
  obtain ⟨v, ps, hrun, hv⟩ := h1.look_ok lawS Tryz.underlying69 (zeroU w) unitElem_mk (keyS hs)
  obtain ⟨rfl, _⟩ := unitElem_inv hv
  rw [hrun, h2 s]
def putL (L : List ByteArray) (s : ByteArray) : List ByteArray := if memb L s = true then L else s :: L
theorem putL_mem {L : List ByteArray} {s t : ByteArray} : t ∈ putL L s ↔ t = s ∨ t ∈ L := by
  unfold putL
  split
  · rename_i h
    exact ⟨.inr, fun e => e.elim (fun e => by rw [e]; exact memb_iff.1 h) id⟩
  · exact List.mem_cons
theorem Mst.put {w : World} {B n : Nat} {L : List ByteArray} (h : Mst w B n L) {s : ByteArray} (hs : s.size ≤ 140737488351232) (hn : n < 140737488351232) :
    ∃ w', (Instr.mapUpdate 69 (.map (some B)) (.string s) (.agg #[])).run Tryz.prog w = .ok () w' ∧ Mst w' B (n + 1) (putL L s) ∧ Kp (fun q => q = B) w w' := by
  obtain ⟨h0, D, h1, h2, h3⟩ := h
  obtain ⟨w', hrun, h4, h5⟩ := h1.update lawS Tryz.underlying69 (by unfold maxLen; omega) (keyS hs) unitElem_mk
  refine ⟨w', hrun, ⟨?_, _, h4, fun t => ?_, ?_⟩, ⟨h5.os, h5.tape, h5.output, h5.size, fun k hk hne => h5.block k hk (fun e => hne (by injection e))⟩⟩
  · unfold putL
    split
    · exact h0
    · rename_i hne
      exact List.nodup_cons.2 ⟨fun e => hne (memb_iff.2 e), h0⟩
  · by_cases ht : t = s
    · subst ht
      rw [Maps.has_put_same h1.isMap (isKeyL t)]
      exact (memb_iff.2 (putL_mem.2 (.inl rfl))).symm
    · rw [Maps.has_put_other (kyl_ne ht), h2 t]
      rw [Bool.eq_iff_iff, memb_iff, memb_iff, putL_mem]
      exact ⟨.inr, fun e => e.resolve_left ht⟩
  · rw [Maps.size_put (h1.tidy lawS), h2 s, h3]
    unfold putL
    cases memb L s
    · rfl
    · rfl

/-! ### At the operation -/
section
variable {ops : Array Oper} {rest : List Oper} {o : Oper} {a : Act} {Q : Exit → Act → World → Prop} {w : World}
theorem wpList_lookG (hgd : Region.wanted o (yielded ops a.tmps) = true) {m x : Operand} (ho : o.op = .lookup 53 m x false) {B n : Nat} {g : ByteArray → Option Int} {s : ByteArray} (hm : a.eval m = .map (some B)) (hx : a.eval x = .string s) (h : Mps w B n g) (hs : s.size ≤ 140737488351232)
    (hK : wpList Tryz.prog ops Q rest (a.put o.dst (.int .i64 ((g s).getD 0))) w) : wpList Tryz.prog ops Q (o :: rest) a w := by
  refine wpList_wanted hgd fun K hK' => ?_
  unfold Oper.wp
  simp [execOp, ho, hm, hx, h.look hs, Result.andThen]
  exact hK' _ _ hK
theorem wpList_lookGo (hgd : Region.wanted o (yielded ops a.tmps) = true) {m x : Operand} (ho : o.op = .lookup 53 m x true) {B n : Nat} {g : ByteArray → Option Int} {s : ByteArray} (hm : a.eval m = .map (some B)) (hx : a.eval x = .string s) (h : Mps w B n g) (hs : s.size ≤ 140737488351232)
    (hK : wpList Tryz.prog ops Q rest (a.put o.dst (.tuple #[.int .i64 ((g s).getD 0), .bool (g s).isSome])) w) : wpList Tryz.prog ops Q (o :: rest) a w := by
  refine wpList_wanted hgd fun K hK' => ?_
  unfold Oper.wp
  simp [execOp, ho, hm, hx, h.look_ok hs, Result.andThen]
  exact hK' _ _ hK
theorem wpList_putG (hgd : Region.wanted o (yielded ops a.tmps) = true) {m x v : Operand} (ho : o.op = .mapUpdate 53 m x v) {B n : Nat} {g : ByteArray → Option Int} {s : ByteArray} {i : Int} (hm : a.eval m = .map (some B)) (hx : a.eval x = .string s) (hv : a.eval v = .int .i64 i) (h : Mps w B n g) (hs : s.size ≤ 140737488351232) (hi : (Lit.int .i64 i).wf = true) (hn : n < 140737488351232)
    (hK : ∀ w', Mps w' B (n + 1) (putG g s i) → Kp (fun q => q = B) w w' → wpList Tryz.prog ops Q rest (a.put o.dst undef) w') : wpList Tryz.prog ops Q (o :: rest) a w := by
  refine wpList_wanted hgd fun K hK' => ?_
  obtain ⟨w', hrun, h1, h2⟩ := h.put hs hi hn
  unfold Oper.wp
  simp [execOp, ho, hm, hx, hv, hrun, Result.andThen]
  exact hK' _ _ (hK w' h1 h2)
theorem wpList_lookS (hgd : Region.wanted o (yielded ops a.tmps) = true) {m x : Operand} (ho : o.op = .lookup 69 m x true) {B n : Nat} {L : List ByteArray} {s : ByteArray} (hm : a.eval m = .map (some B)) (hx : a.eval x = .string s) (h : Mst w B n L) (hs : s.size ≤ 140737488351232)
    (hK : wpList Tryz.prog ops Q rest (a.put o.dst (.tuple #[.agg #[], .bool (memb L s)])) w) : wpList Tryz.prog ops Q (o :: rest) a w := by
  refine wpList_wanted hgd fun K hK' => ?_
  unfold Oper.wp
  simp [execOp, ho, hm, hx, h.look hs, Result.andThen]
  exact hK' _ _ hK
theorem wpList_putS (hgd : Region.wanted o (yielded ops a.tmps) = true) {m x v : Operand} (ho : o.op = .mapUpdate 69 m x v) {B n : Nat} {L : List ByteArray} {s : ByteArray} (hm : a.eval m = .map (some B)) (hx : a.eval x = .string s) (hv : a.eval v = .agg #[]) (h : Mst w B n L) (hs : s.size ≤ 140737488351232) (hn : n < 140737488351232)
    (hK : ∀ w', Mst w' B (n + 1) (putL L s) → Kp (fun q => q = B) w w' → wpList Tryz.prog ops Q rest (a.put o.dst undef) w') : wpList Tryz.prog ops Q (o :: rest) a w := by
  refine wpList_wanted hgd fun K hK' => ?_
  obtain ⟨w', hrun, h1, h2⟩ := h.put hs hn
  unfold Oper.wp
  simp [execOp, ho, hm, hx, hv, hrun, Result.andThen]
  exact hK' _ _ (hK w' h1 h2)
theorem wpList_lenS (hgd : Region.wanted o (yielded ops a.tmps) = true) {m : Operand} (ho : o.op = .call { callee := .builtin Builtin.len, args := #[m], argTypes := #[69] }) {B n : Nat} {L : List ByteArray} (hm : a.eval m = .map (some B)) (h : Mst w B n L)
    (hK : wpList Tryz.prog ops Q rest (a.put o.dst (.int .i64 (L.length : Nat))) w) : wpList Tryz.prog ops Q (o :: rest) a w := by
  refine wpList_wanted hgd fun K hK' => ?_
  unfold Oper.wp
  simp [execOp, ho, resolve, invoke, builtin, hm, h.len o.type, Result.andThen]
  exact hK' _ _ hK
end
end
section
open Go.RowKit Go
/-! ### The table of built-in names -/
def ocs : Array Value := #[.string ⟨#[97, 110, 121]⟩, .int .i64 0, .string ⟨#[110, 117, 108, 108]⟩, .int .i64 1, .string ⟨#[98, 111, 111, 108]⟩, .int .i64 2, .string ⟨#[105, 110, 116]⟩, .int .i64 3, .string ⟨#[102, 108, 111, 97, 116]⟩, .int .i64 4, .string ⟨#[115, 105, 110, 103, 108, 101]⟩, .int .i64 4, .string ⟨#[116, 101, 120, 116]⟩, .int .i64 5, .string ⟨#[98, 121, 116, 101, 115]⟩, .int .i64 6, .string ⟨#[108, 105, 110, 107]⟩, .int .i64 7]
structure Otb (w : World) : Prop where
  c : ∀ j u, ocs[j]? = some u → w.cell? ⟨0, 0 + j, none⟩ = some u
theorem Otb.next {w w' : World} (h : Otb w) (hm : ∀ p u, w.cell? p = some u → w'.cell? p = some u) : Otb w' := ⟨fun j u hj => hm _ _ (h.c j u hj)⟩
theorem infoOw : (Tryz.prog.info? 73).map (·.size) = some 18 := by kernel_rfl
theorem aggOw (w : World) : (isAgg 73).run Tryz.prog w = .ok true w := by
  unfold isAgg
  rw [Sem.run_bind, run_underlying Tryz.underlying73 w]
  simp
theorem owns_len : owns.length = 9 := rfl
theorem own_index (w : World) (i : Nat) (n : ByteArray) (k : Nat) (h : owns[i]? = some (n, k)) : (Instr.index 73 (.agg ocs) (.int .i64 (i : Nat))).run Tryz.prog w = .ok (.agg #[.string n, .int .i64 (k : Nat)]) w := by
  rcases i with _ | _ | _ | _ | _ | _ | _ | _ | _ | i
  all_goals first
    | (simp only [owns, List.getElem?_cons_zero, List.getElem?_cons_succ, Option.some.injEq, Prod.mk.injEq] at h
       obtain ⟨rfl, rfl⟩ := h
       kernel_rfl)
    | (simp [owns] at h)
theorem exec_own {o : Oper} {a : Act} {x ix : Operand} {i : Nat} {n : ByteArray} {k : Nat} {w : World} (h : owns[i]? = some (n, k)) (ho : o.op = .index 73 x ix) (hx : a.eval x = .agg ocs) (hi : a.eval ix = .int .i64 (i : Nat)) : (execOp a.eval o).run Tryz.prog w = .ok (.value (.agg #[.string n, .int .i64 (k : Nat)])) w := by
  unfold execOp
  have hr := own_index w i n k h
  simp only [ho, Sem.run_bind, hx, hi, hr, Result.andThen_ok]
  rfl
theorem ownK_at {s : ByteArray} {i : Nat} {k : Nat} (h : owns[i]? = some (s, k)) (hn : ∀ j p, j < i → owns[j]? = some p → p.1 ≠ s) : ownK s = some k := by
  unfold ownK
  have : (owns.find? fun p => decide (p.1 = s)) = some (s, k) := by
    rw [List.find?_eq_some_iff_getElem]
    obtain ⟨hl, he⟩ := List.getElem?_eq_some_iff.1 h
    exact ⟨by simp, i, hl, he, fun j hj => by simpa using hn j _ hj (List.getElem?_eq_getElem (by omega))⟩
  rw [this]
  rfl
theorem ownK_no {s : ByteArray} (hn : ∀ j p, j < 9 → owns[j]? = some p → p.1 ≠ s) : ownK s = none := by
  unfold ownK
  have : (owns.find? fun p => decide (p.1 = s)) = none := by
    rw [List.find?_eq_none]
    intro p hp
    obtain ⟨j, hj, e⟩ := List.getElem_of_mem hp
    have := hn j p (by have := owns_len; omega) (by rw [List.getElem?_eq_getElem hj, e])
    simpa using this
  rw [this]
  rfl
set_option maxRecDepth 1000000 in
set_option maxHeartbeats 1000000 in
theorem ownKind_any (s : ByteArray) (w : World) (hT : Otb w) : Calls Tryz.prog 52 #[.string s] w fun e w' => e = .returned (.tuple #[.int .i64 ((ownK s).getD 0 : Nat), .bool (ownK s).isSome]) ∧ Below w.heap.size w w' := by
  have HT := hide hT.c
  have HI := hide infoOw
  have HA : Hid (∀ w, (isAgg 73).run Tryz.prog w = .ok true w) := aggOw
  clear hT
  go_enter Tryz.func52, Tryz.ntmps52
  go_wp2_with (refine wpList_aggAt rfl rfl HI.out HA.out 0 0 ocs rfl rfl HT.out ?_)
  clear HT HI HA
  have HOC : Hid (ocs = ocs) := rfl
  generalize hoc : ocs = OC at *
  have HOE := hide hoc
  clear hoc HOC
  go_loopw [7] (fun vi wx => ∃ i : Nat, i ≤ 9 ∧ vi = .int .i64 (i : Nat) ∧ Hid (∀ j p, j < i → owns[j]? = some p → p.1 ≠ s) ∧ Hid (Below w.heap.size w wx)) (fun vi _ => 9 - (intOf vi).toNat)
  case atStart => exact ⟨0, by omega, rfl, fun j _ hj => absurd hj (by omega), Below.refl _ _⟩
  case round =>
    obtain ⟨i, hi, rfl, HN, HBw⟩ := hrel
    by_cases hlt : i < 9
    · have g1 : (i : Int) < 9 := by omega
      obtain ⟨⟨n, k⟩, hp⟩ : ∃ p, owns[i]? = some p := ⟨owns[i]'(by have := owns_len; omega), List.getElem?_eq_getElem _⟩
      have HP := hide hp
      have hb1 := below_alloc4 wr (.cells #[.string n, .int .i64 (k : Nat)] 72)
      have HB1 : Hid (Below w.heap.size w (wr.alloc (.cells #[.string n, .int .i64 (k : Nat)] 72))) := HBw.out.trans (hb1.mono HBw.out.size)
      have HEX : Hid (∀ (o : Oper) (a : Act) (x ix : Operand) (w : World), o.op = .index 73 x ix → a.eval x = .agg OC → a.eval ix = .int .i64 (i : Nat) → (execOp a.eval o).run Tryz.prog w = .ok (.value (.agg #[.string n, .int .i64 (k : Nat)])) w) := fun o a x ix w h1 h2 h3 => exec_own hp h1 (h2.trans (by rw [HOE.out])) h3
      clear hp hb1
      by_cases he : n = s
      · have hne : (n.toList == s.toList) = true := by rw [he]; simp
        have HK : Hid (ownK s = some k) := by
          have h := HP.out
          rw [he] at h
          exact ownK_at h HN.out
        clear he
        go_wp2_with (refine wpList_ex rfl (HEX.out _ _ _ _ _ rfl rfl rfl) ?_)
        go_ret2
        exact ⟨by rw [HK.out]; rfl, HB1.out⟩
      · have hne : (n.toList == s.toList) = false := str_no he
        have HN2 : Hid (∀ j p, j < i + 1 → owns[j]? = some p → p.1 ≠ s) := fun j p hj h1 => by
          by_cases hji : j = i
          · subst hji
            rw [HP.out] at h1
            injection h1 with h1
            rw [← h1]
            exact he
          · exact HN.out j p (by omega) h1
        clear he HP HN
        go_wp2_with (refine wpList_ex rfl (HEX.out _ _ _ _ _ rfl rfl rfl) ?_)
        go_roundw
        case rel => exact ⟨i + 1, by omega, by go_num, HN2, HB1⟩
        case measure => simp [intOf]; omega
    · have g1 : ¬ (i : Int) < 9 := by omega
      have HK : Hid (ownK s = none) := ownK_no (fun j p hj => HN.out j p (by omega))
      go_wp2_with fail
      go_ret2
      exact ⟨by rw [HK.out]; rfl, HBw.out⟩
end
end Go.Proofs.YtagkogpjckjobaaGreatDoor
