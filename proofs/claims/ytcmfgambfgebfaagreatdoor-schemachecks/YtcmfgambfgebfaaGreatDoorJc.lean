import Derived.Test.YtcmfgambfgebfaaGreatDoorJb
import Derived.Test.YtcmfgambfgebfaaGreatDoorJa
import Derived.Laws.MakeOwn
import Derived.Lib.AppendZerosOnto
import Derived.Lib.SliceRun
import Derived.Laws.Concat
import Derived.Deep.CutBlock
import Derived.Test.YtcmfgambfgebfaaGreatDoorSlav
import Derived.Lib.ValidLaws
namespace Go.Proofs.YtcmfgambfgebfaaGreatDoor
section
open Go.RowKit Go

end
section
open Go.RowKit Go

end
section
open Go.RowKit Go

end
section
open Go.RowKit Go

end
section
open Go.RowKit Go

end
section
open Go.RowKit Go

end
section
open Go.RowKit Go

end
section
open Go.RowKit Go

end
section
open Go.RowKit Go

end
section
open Go.RowKit Go

end
section
open Go.RowKit Go

end
section
open Go.RowKit Go

end
section
open Go.RowKit Go

end
section
open Go.RowKit Go

end
section
open Go.RowKit Go

end
section
open Go.RowKit Go
/-- How many bytes a code point's first byte asks for; the bounds of the second. -/
def un (c : Nat) : Nat := if 194 ≤ c ∧ c ≤ 223 then 2 else if 224 ≤ c ∧ c ≤ 239 then 3 else if 240 ≤ c ∧ c ≤ 244 then 4 else 0
def ulo (c : Nat) : Nat := if c = 240 then 144 else if c = 224 then 160 else 128
def uhi (c : Nat) : Nat := if c = 244 then 143 else if c = 237 then 159 else 191
/-- How many bytes the code point at the front has; 0: there is none. -/
def uone (b : List Nat) : Nat := match b with
  | [] => 0
  | c :: r => if c < 128 then 1
    else if un c = 0 ∨ b.length < un c ∨ r.getD 0 0 < ulo c ∨ uhi c < r.getD 0 0 then 0
    else if ((b.take (un c)).drop 2).all (fun x => decide (128 ≤ x) && decide (x ≤ 191)) then un c else 0
theorem mem_take_drop2 {B : List Nat} {i n : Nat} (h2 : 2 ≤ i) (hn : i < n) (hi : i < B.length) : B.getD i 0 ∈ (B.take n).drop 2 := by
  rw [List.mem_iff_getElem?]
  refine ⟨i - 2, ?_⟩
  rw [List.getElem?_drop, show 2 + (i - 2) = i by omega, List.getElem?_take_of_lt hn, List.getD_eq_getElem?_getD, List.getElem?_eq_getElem hi]
  rfl
end
section
open Go.RowKit Go
theorem uone_le (b : List Nat) : uone b ≤ b.length := by
  unfold uone
  split
  · omega
  · rename_i c r
    split
    · simp
    · split
      · omega
      · split
        · omega
        · omega
/-- Code points from end to end. -/
def ugood (b : List Nat) : Bool := if b = [] then true else if _h : uone b = 0 then false else ugood (b.drop (uone b))
termination_by b.length
decreasing_by
  have := uone_le b
  rw [List.length_drop]
  omega
theorem ugood_nil : ugood [] = true := by rw [ugood, if_pos rfl]
theorem ugood_bad {b : List Nat} (h : b ≠ []) (h0 : uone b = 0) : ugood b = false := by rw [ugood, if_neg h, dif_pos h0]
theorem ugood_step {b : List Nat} (h : b ≠ []) (h0 : uone b ≠ 0) : ugood b = ugood (b.drop (uone b)) := by rw [ugood, if_neg h, dif_neg h0]
end
section
open Go.RowKit Go
/-- The library's tables of UTF-8 lie as its text lays them. -/
def Tabs (w : World) : Prop := Lib.Utf8Tabs (Tryz.laysValid_ren.g 3) (Tryz.laysValid_ren.g 4) w
theorem Tabs.next {w w' : World} (h : Tabs w) (hb : Below w.heap.size w w') : Tabs w' := Utf8Tabs_below h hb
/-- No good UTF-8. -/
def badb (s : ByteArray) : Bool := !Lib.validD s.data.toList
theorem valid_any (s : ByteArray) (w : World) (hs : s.size ≤ 140737488351232) (hT : Tabs w) : Calls Tryz.prog 104 #[.string s] w fun e w' => e = .returned (.bool (!badb s)) ∧ Below w.heap.size w w' := by
  unfold badb
  rw [Bool.not_not]
  exact Any.utf8_ValidString Tryz.laysValid s w (by omega) hT
end
section
open Go.RowKit Go
theorem first_un : ∀ c : Fin 256, 128 ≤ c.val → (un c.val = 0 → Lib.firstT c.val % 8 ≠ 2 ∧ Lib.firstT c.val % 8 ≠ 3 ∧ Lib.firstT c.val % 8 ≠ 4) ∧ (un c.val ≠ 0 → Lib.firstT c.val % 8 = un c.val ∧ Lib.accLo (Lib.firstT c.val / 16) = ulo c.val ∧ Lib.accHi (Lib.firstT c.val / 16) = uhi c.val) := by decide +kernel
theorem un_is (c : Nat) : un c = 0 ∨ un c = 2 ∨ un c = 3 ∨ un c = 4 := by
  unfold un
  split
  · omega
  · split
    · omega
    · split <;> omega
theorem uone_lead (c : Nat) (r : List Nat) (h : 128 ≤ c) : uone (c :: r) = if un c = 0 ∨ (c :: r).length < un c ∨ r.getD 0 0 < ulo c ∨ uhi c < r.getD 0 0 then 0 else if (((c :: r).take (un c)).drop 2).all (fun x => decide (128 ≤ x) && decide (x ≤ 191)) then un c else 0 := by
  show (if c < 128 then 1 else _) = _
  rw [if_neg (by omega)]
theorem uone_chk (x : UInt8) (r : List UInt8) (h : 128 ≤ x.toNat) : Lib.checkN (x :: r).length ((x :: r).getD 1 0).toNat ((x :: r).getD 2 0).toNat ((x :: r).getD 3 0).toNat (Lib.firstT x.toNat % 8) (Lib.accLo (Lib.firstT x.toNat / 16)) (Lib.accHi (Lib.firstT x.toNat / 16)) = if uone ((x :: r).map UInt8.toNat) = 0 then none else some (uone ((x :: r).map UInt8.toNat)) := by
  obtain ⟨h0, h1⟩ := first_un ⟨x.toNat, x.toNat_lt⟩ h
  simp only at h0 h1
  rw [List.map_cons, uone_lead _ _ h]
  by_cases hu : un x.toNat = 0
  · have e := h0 hu
    rw [if_pos (Or.inl hu : un x.toNat = 0 ∨ _), if_pos (rfl : (0 : Nat) = 0)]
    unfold Lib.checkN
    rw [if_neg e.1, if_neg e.2.1, if_neg e.2.2]
  · obtain ⟨e1, e2, e3⟩ := h1 hu
    rw [e1, e2, e3]
    clear e1 e2 e3 h0 h1
    unfold Lib.checkN
    generalize ulo x.toNat = lo
    generalize uhi x.toNat = hi
    rcases un_is x.toNat with e | e | e | e
    · exact absurd e hu
    · rw [e]
      clear e hu
      rcases r with _ | ⟨a, _ | ⟨b, _ | ⟨d, r⟩⟩⟩ <;> simp <;> (try split) <;> simp_all <;> omega
    · rw [e]
      clear e hu
      rcases r with _ | ⟨a, _ | ⟨b, _ | ⟨d, r⟩⟩⟩ <;> simp <;> (try split) <;> simp_all <;> omega
    · rw [e]
      clear e hu
      rcases r with _ | ⟨a, _ | ⟨b, _ | ⟨d, r⟩⟩⟩ <;> simp <;> (try split) <;> simp_all <;> omega
theorem uone_ascii (c : Nat) (r : List Nat) (h : c < 128) : uone (c :: r) = 1 := if_pos h
theorem valid_ugood (n : Nat) : ∀ l : List UInt8, l.length ≤ n → Lib.validD l = ugood (l.map UInt8.toNat) := by
  induction n with
  | zero => intro l hl; rw [List.eq_nil_of_length_eq_zero (Nat.le_zero.1 hl)]; exact ugood_nil.symm
  | succ n ih =>
    intro l hl
    rcases l with _ | ⟨x, r⟩
    · exact ugood_nil.symm
    · by_cases h : x.toNat < 128
      · rw [Lib.validD_cons x r h, List.map_cons, ugood_step (by simp) (by rw [uone_ascii _ _ h]; decide), uone_ascii _ _ h, ih r (by simp at hl; omega)]
        rfl
      · have hk := uone_chk x r (by omega)
        rw [Lib.validD_lead (x :: r) (by simp) (by show 128 ≤ x.toNat; omega)]
        show (match Lib.checkN (x :: r).length ((x :: r).getD 1 0).toNat ((x :: r).getD 2 0).toNat ((x :: r).getD 3 0).toNat (Lib.firstT x.toNat % 8) (Lib.accLo (Lib.firstT x.toNat / 16)) (Lib.accHi (Lib.firstT x.toNat / 16)) with | none => false | some k => Lib.validD ((x :: r).drop k)) = _
        rw [hk]
        by_cases h0 : uone ((x :: r).map UInt8.toNat) = 0
        · rw [if_pos h0, ugood_bad (by simp) h0]
        · rw [if_neg h0, ugood_step (by simp) h0]
          show Lib.validD ((x :: r).drop (uone ((x :: r).map UInt8.toNat))) = _
          have hle := uone_le ((x :: r).map UInt8.toNat)
          rw [List.length_map] at hle
          rw [ih _ (by rw [List.length_drop]; simp only [List.length_cons] at hl ⊢; omega), List.map_drop]
theorem bad_good (s : ByteArray) : badb s = !ugood (sl s) := by
  unfold badb sl
  rw [valid_ugood _ _ (Nat.le_refl _)]
end
section
open Go.RowKit Go
/-! ### Types plainly -/
/-- A reference: a name, and whether null is taken beside it. -/
structure Rf where
  n : ByteArray
  z : Bool
/-- A field. -/
structure Fd where
  n : ByteArray
  k : ByteArray
  r : Rf
  m : Bool
/-- A case. -/
structure Cz where
  k : ByteArray
  n : ByteArray
/-- A type. -/
structure Tp where
  n : ByteArray
  k : Int
  lo : Int
  hi : Int
  r : Rf
  fs : List Fd
  cs : List Cz
  ws : List ByteArray
def zrf : Rf := ⟨⟨#[]⟩, false⟩
def ztp : Tp := ⟨⟨#[]⟩, 0, 0, 0, zrf, [], [], []⟩
/-- A built-in name alone. -/
def otp (s : ByteArray) : Tp := ⟨s, 0, 0, 0, zrf, [], [], []⟩
def nAny : ByteArray := ⟨#[97, 110, 121]⟩
def nNull : ByteArray := ⟨#[110, 117, 108, 108]⟩
/-- The names that are built in, each with the kind of its trees. -/
def owns : List (ByteArray × Nat) := [(⟨#[97, 110, 121]⟩, 0), (⟨#[110, 117, 108, 108]⟩, 1), (⟨#[98, 111, 111, 108]⟩, 2), (⟨#[105, 110, 116]⟩, 3), (⟨#[102, 108, 111, 97, 116]⟩, 4), (⟨#[115, 105, 110, 103, 108, 101]⟩, 4), (⟨#[116, 101, 120, 116]⟩, 5), (⟨#[98, 121, 116, 101, 115]⟩, 6), (⟨#[108, 105, 110, 107]⟩, 7)]
def ownK (s : ByteArray) : Option Nat := (owns.find? fun p => decide (p.1 = s)).map (·.2)
/-- The first place of a name. -/
def plc : List Tp → ByteArray → Option Nat
  | [], _ => none
  | t :: r, s => if t.n = s then some 0 else (plc r s).map (· + 1)
/-- What a name is in a list. -/
def fnd (l : List Tp) (s : ByteArray) : Tp × Bool := match plc l s with
  | some i => (l.getD i ztp, true)
  | none => if (ownK s).isSome then (otp s, true) else (ztp, false)
/-- What following a name comes to, by so many steps. -/
def flw (l : List Tp) : Nat → ByteArray → Bool → ByteArray × Bool
  | 0, _, _ => (⟨#[]⟩, false)
  | k + 1, s, z => if (fnd l s).1.k ≠ 1 then (s, z || decide (s = nAny) || decide (s = nNull)) else flw l k (fnd l s).1.r.n (z || (fnd l s).1.r.z)
def flo (l : List Tp) (s : ByteArray) : ByteArray × Bool := flw l (l.length + 1) s false
/-- The one kind of a type's trees. -/
def knd (t : Tp) : Nat := if t.k = 2 then 3 else if t.k = 3 ∨ t.k = 6 then 8 else if t.k = 4 ∨ t.k = 5 ∨ t.k = 7 then 9 else if t.k = 9 then 5 else (ownK t.n).getD 0
/-- A byte of a name. -/
def nby (c : Nat) : Bool := decide (97 ≤ c ∧ c ≤ 122) || decide (65 ≤ c ∧ c ≤ 90) || decide (48 ≤ c ∧ c ≤ 57) || decide (c = 45) || decide (c = 46) || decide (c = 95)
def nbl (s : ByteArray) : Bool := decide (0 < s.size) && decide (s.size ≤ 64) && s.data.toList.all fun c => nby c.toNat
/-- The fields that a type's kind does not use are zero. -/
def tdy (t : Tp) : Bool :=
  let k := t.k
  decide (1 ≤ k ∧ k ≤ 9) && (decide (k = 2 ∨ k = 3 ∨ k = 4) || decide (t.lo = 0 ∧ t.hi = 0)) && (decide (k = 1 ∨ k = 3 ∨ k = 4) || decide (t.r.n = ⟨#[]⟩ ∧ t.r.z = false))
    && (decide (k = 5 ∨ k = 6) || t.fs.isEmpty) && (decide (k = 7 ∨ k = 8) || t.cs.isEmpty) && (decide (k = 9) || t.ws.isEmpty)
/-- What a type speaks of. -/
def rfs (t : Tp) : List Rf := (if t.k = 1 ∨ t.k = 3 ∨ t.k = 4 then [t.r] else []) ++ t.fs.map (·.r) ++ t.cs.map (fun c => ⟨c.n, false⟩)
/-- Does a text stand in a row? -/
def memb (L : List ByteArray) (s : ByteArray) : Bool := L.any fun t => decide (t = s)
theorem memb_iff {L : List ByteArray} {s : ByteArray} : memb L s = true ↔ s ∈ L := by
  unfold memb
  rw [List.any_eq_true]
  exact ⟨fun ⟨x, h1, h2⟩ => by rw [← of_decide_eq_true h2]; exact h1, fun h => ⟨s, h, by simp⟩⟩
/-- Is a text of a row no good one, or does it stand there ahead? -/
def stray (seen : List ByteArray) (s : ByteArray) : Bool := memb seen s || badb s
/-- A row of texts, good ones, each once. -/
def goodT : List ByteArray → List ByteArray → Bool
  | _, [] => true
  | seen, s :: r => !stray seen s && goodT (s :: seen) r
/-- A struct's or a tuple's fields, one behind the other. -/
def ffs (k : Int) : List ByteArray → List ByteArray → Bool → List Fd → Bool
  | _, _, _, [] => true
  | ns, ks, mb, f :: r =>
    if !nbl f.n || stray ns f.n then false
    else if decide (k = 5) && stray ks f.k then false
    else if decide (k = 6) && (decide (f.k ≠ ⟨#[]⟩) || mb && !f.m) then false
    else ffs k (f.n :: ns) (if k = 5 then f.k :: ks else ks) f.m r
def fft (t : Tp) : Bool := decide (t.fs.length ≤ 64) && ffs t.k [] [] false t.fs
def some64 (n : Nat) : Bool := decide (0 < n) && decide (n ≤ 64)
def cft (t : Tp) : Bool :=
  if t.k = 7 then some64 t.cs.length && goodT [] (t.cs.map (·.k))
  else if t.k = 8 then some64 t.cs.length && t.cs.all fun c => decide (c.k = ⟨#[]⟩)
  else if t.k = 9 then some64 t.ws.length && goodT [] t.ws
  else true
/-- The first look's error of a type. -/
def aln (l : List Tp) (i : Nat) (t : Tp) : Nat :=
  if !nbl t.n || (ownK t.n).isSome || decide ((plc l t.n).getD 0 < i) then 111
  else if !tdy t then 112
  else if t.lo > t.hi ∨ (t.lo < 0 ∧ t.k ≠ 2) then 113
  else if (rfs t).any fun r => !(fnd l r.n).2 then 114
  else if !fft t then 115
  else if !cft t then 116
  else 0
def rng (l : List Tp) (t : Tp) : Nat := if flo l t.n = (⟨#[]⟩, false) then 117 else 0
/-- Does each case have a kind of its own? -/
def kap (l : List Tp) : List Nat → List Cz → Bool
  | _, [] => true
  | seen, c :: r =>
    let e := flo l c.n
    let k := knd (fnd l e.1).1
    if e.2 || decide (k = 0) || seen.contains k then false else kap l (k :: seen) r
def tgt (l : List Tp) (t : Tp) : Nat :=
  if (rfs t).any fun r => r.z && (flo l r.n).2 then 118
  else if t.k = 8 ∧ kap l [] t.cs = false then 116
  else 0
/-- The first error of a look, and its place. -/
def lk1 (f : Nat → Tp → Nat) : Nat → List Tp → Option (Nat × Nat)
  | _, [] => none
  | i, t :: r => if f i t ≠ 0 then some (f i t, i) else lk1 f (i + 1) r
/-- Check. -/
def chk11 (l : List Tp) : Nat × Nat :=
  if 64 < l.length then (110, 0)
  else match lk1 (aln l) 0 l with
    | some r => r
    | none => match lk1 (fun _ t => rng l t) 0 l with
      | some r => r
      | none => match lk1 (fun _ t => tgt l t) 0 l with
        | some r => r
        | none => (0, 0)
end
section
open Go.RowKit Go
/-- A row of things, each of n cells. -/
structure GSl {α : Type} (n : Nat) (P : World → α → Array Value → Prop) (w : World) (v : Value) (xs : List α) : Prop where
  form : ∃ a cap, v = .slice a xs.length cap ∧ (xs.length ≤ cap ∧ (a = none → cap = 0)) ∧ (xs = [] ∨ ∃ b off, a = some ⟨b, off, none⟩ ∧ ∀ i x, xs[i]? = some x → ∃ c, P w x c ∧ ∀ j u, c[j]? = some u → w.cell? ⟨b, off + i * n + j, none⟩ = some u)
  max : xs.length ≤ 140737488351232
theorem GSl.move {α : Type} {n : Nat} {P : World → α → Array Value → Prop} {w w' : World} {v : Value} {xs : List α} (h : GSl n P w v xs) (hP : ∀ x c, P w x c → P w' x c) (hm : ∀ p u, w.cell? p = some u → w'.cell? p = some u) : GSl n P w' v xs := by
  obtain ⟨⟨a, cap, hv, hn, hc⟩, h1⟩ := h
  refine ⟨⟨a, cap, hv, hn, ?_⟩, h1⟩
  rcases hc with hc | ⟨b, off, ha, hc⟩
  · exact .inl hc
  · exact .inr ⟨b, off, ha, fun i x hi => by
      obtain ⟨c, h2, h3⟩ := hc i x hi
      exact ⟨c, hP x c h2, fun j u hj => hm _ _ (h3 j u hj)⟩⟩
theorem GSl.nil {α : Type} {n : Nat} {P : World → α → Array Value → Prop} {w : World} : GSl n P w (.slice none 0 0) [] := ⟨⟨none, 0, rfl, ⟨Nat.le_refl _, fun _ => rfl⟩, .inl rfl⟩, Nat.zero_le _⟩
/-! ### Whole structs -/
/-- A struct somewhere in a block. -/
theorem load_agg {w : World} {T n : Nat} (hi : (Tryz.prog.info? T).map (·.size) = some n) (ha : ∀ w, (isAgg T).run Tryz.prog w = .ok true w) (g o : Nat) (cs : Array Value) (hn : cs.size = n) (hc : ∀ j u, cs[j]? = some u → w.cell? ⟨g, o + j, none⟩ = some u) : (Instr.loadAt T (.pointer (some ⟨g, o, none⟩))).run Tryz.prog w = .ok (.agg cs) w := by
  have hl := run_loadCells_list (P := Tryz.prog) (w := w) ⟨g, o, none⟩ cs.toList (fun j v hv => by rw [addr_add]; exact hc j v (by simpa using hv))
  simp only [Instr.loadAt, Instr.sureAddr, Sem.run_bind, Sem.run_pure, Result.andThen]
  cases hq : Tryz.prog.info? T with
  | none => simp [hq] at hi
  | some i =>
    have hs : i.size = n := by simpa [hq] using hi
    have hn2 : cs.toList.length = n := by simpa using hn
    rw [hn2] at hl
    simp [loadVar, ha w, sizeOf, typeInfo, hq, hs, hl]
theorem wpList_aggAt {ops : Array Oper} {rest : List Oper} {o : Oper} {a : Act} {Q : Exit → Act → World → Prop} {w : World} {p : Operand} {T n : Nat} (hgd : Region.wanted o (yielded ops a.tmps) = true) (ho : o.op = .load T p) (hi : (Tryz.prog.info? T).map (·.size) = some n) (ha : ∀ w, (isAgg T).run Tryz.prog w = .ok true w) (g off : Nat) (cs : Array Value)
    (hp : a.eval p = .pointer (some ⟨g, off, none⟩)) (hn : cs.size = n) (hc : ∀ j u, cs[j]? = some u → w.cell? ⟨g, off + j, none⟩ = some u)
    (h : wpList Tryz.prog ops Q rest (a.put o.dst (.agg cs)) w) : wpList Tryz.prog ops Q (o :: rest) a w := by
  refine wpList_wanted hgd fun K hK => ?_
  unfold Oper.wp execOp
  simp only [ho, Sem.run_bind, hp, load_agg hi ha g off cs hn hc, Result.andThen_ok]
  exact hK _ _ h
theorem exec_aggAt {o : Oper} {a : Act} {p : Operand} {g off : Nat} {cs : Array Value} {w : World} {T n : Nat} (hi : (Tryz.prog.info? T).map (·.size) = some n) (ha : ∀ w, (isAgg T).run Tryz.prog w = .ok true w) (ho : o.op = .load T p) (hp : a.eval p = .pointer (some ⟨g, off, none⟩)) (hn : cs.size = n) (hc : ∀ j u, cs[j]? = some u → w.cell? ⟨g, off + j, none⟩ = some u) : (execOp a.eval o).run Tryz.prog w = .ok (.value (.agg cs)) w := by
  unfold execOp
  have hr := load_agg (w := w) hi ha g off cs hn hc
  simp only [ho, Sem.run_bind, hp, hr, Result.andThen_ok]
  rfl
end
end Go.Proofs.YtcmfgambfgebfaaGreatDoor
