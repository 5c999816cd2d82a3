import Derived.Test.YtadilnmkjcmnnaaGreatDoorJa
import Derived.ProofKit
import Derived.OpenShut
import Derived.SizedLaws
import Derived.Deep.Matrix
import Derived.Lib.SmallJoins
import Derived.Lib.ConvBytes
import Derived.Laws.AppendOwn
import Derived.Test.YtadilnmkjcmnnaaGreatDoorJe
import Derived.Test.YtadilnmkjcmnnaaGreatDoorJc
import Derived.Test.YtadilnmkjcmnnaaGreatDoorJb
import Derived.Test.YtadilnmkjcmnnaaGreatDoorJd
namespace Go.Proofs.YtadilnmkjcmnnaaGreatDoor
section
open Go.ChangeShapes Go.WideShapes Go.ChangeAt Go.RowKit Go.Deep
theorem Tryz.own : ownKnob Tryz.prog.godebug = none := by kernel_rfl

theorem Tryz.laidOut : laidOutB Tryz.prog = true := by kernel_rfl

theorem Tryz.cells5 : Tryz.prog.cellsOf 5 = 1 := by kernel_rfl

theorem Tryz.cells_bytes : Tryz.prog.cellsOf 46 = 1 := by kernel_rfl

theorem Tryz.bytes5 : Tryz.prog.bytesOf 5 = 1 := by kernel_rfl

theorem wf_u8 {n : Int} (h : (Lit.int .u8 n).wf = true) : 0 ≤ n ∧ n ≤ 255 := bounds_u8 h

/-- A row of bytes that was read as data, as BSl says it. -/
theorem bsl_of_row {w : World} (A : Option Addr) (L C : Nat) (Z : List Int) (hl : L ≤ C) (hm : C ≤ maxLen) (hz : Z.length = C) (hwf : ∀ n ∈ Z, (Lit.int .u8 n).wf = true) (hn : A = none → C = 0)
    (hc : ∀ a', A = some a' → ∀ c, c < C → w.cell? (a'.add c) = some (.int .u8 (Z.getD c 0))) : BSl w (.slice A L C) ((Z.take L).map Int.toNat) := by
  have hlen : ((Z.take L).map Int.toNat).length = L := by simp; omega
  refine ⟨⟨A, C, by rw [hlen], ⟨by rw [hlen]; exact hl, hn⟩, ?_⟩, by rw [hlen]; unfold maxLen at hm; omega, ?_⟩
  · by_cases h0 : L = 0
    · left; subst h0; simp
    · right
      cases A with
      | none => have := hn rfl; omega
      | some a =>
        obtain ⟨b, off, spot⟩ := a
        have h1 := hc _ rfl 0 (by omega)
        have hspot : spot = none := by simpa [Addr.add] using World.cell?_spot h1
        subst hspot
        refine ⟨b, off, rfl, fun j hj => ?_⟩
        rw [hlen] at hj
        have h2 := hc _ rfl j (by omega)
        have hadd : (⟨b, off, none⟩ : Addr).add j = ⟨b, off + j, none⟩ := by unfold Addr.add; split <;> simp_all
        rw [hadd] at h2
        rw [h2]
        have hjz : j < Z.length := by omega
        have hb := wf_u8 (hwf Z[j] (List.getElem_mem hjz))
        simp [List.getD, hj, hjz]
        omega
  · intro x hx
    simp only [List.mem_map] at hx
    obtain ⟨n, hn', rfl⟩ := hx
    have := wf_u8 (hwf n (List.mem_of_mem_take hn'))
    omega

/-- What a row weighs, inside a slice of rows. -/
theorem weights_all {H : Type} {P : Program} {e : TypeId} {d : DataW H} : ∀ {l : List (DataW H)}, d ∈ l → ∀ n ∈ d.weights P e, n ∈ DataW.weightsAll P e l
  | [], h, _, _ => by cases h
  | x :: r, h, n, hn => by
    simp only [DataW.weightsAll, List.mem_append]
    rcases List.mem_cons.1 h with h | h
    · subst h; exact .inl hn
    · exact .inr (weights_all h n hn)

theorem row_weight {H : Type} (a' : Addr) (L C : Nat) (Z : List Int) (hz : Z.length = C) : C ∈ (intRow (H := H) .u8 (some a') L Z).weights Tryz.prog 46 := by
  have e : (intRow (H := H) .u8 (some a') L Z) = .slice (lits .u8 (Z.take L)) (lits .u8 (Z.drop L)) := rfl
  rw [e]
  simp only [DataW.weights, Tryz.underlying46, Tryz.bytes5]
  refine List.mem_cons.2 (.inl ?_)
  simp [lits]
  omega

/-- A row of a slice of rows of bytes is within the reach. -/
theorem rows_reach {H : Type} {ts : List TypeId} {ds : List (DataW H)} (h : (DataW.weightsEach Tryz.prog ts ds).all (· ≤ reachBytes) = true) {j : Nat} {elems spare : List (DataW H)} (ht : ts[j]? = some 22) (hd : ds[j]? = some (.slice elems spare))
    {d : DataW H} (hm : d ∈ elems) {n : Nat} (hn : n ∈ d.weights Tryz.prog 46) : n ≤ reachBytes := by
  have h1 : n ∈ DataW.weightsAll Tryz.prog 46 elems := weights_all hm n hn
  have h2 : n ∈ (DataW.slice elems spare).weights Tryz.prog 22 := by
    simp only [DataW.weights, Tryz.underlying22]
    exact List.mem_cons.2 (.inr (List.mem_append.2 (.inl h1)))
  have := List.all_eq_true.1 h _ (DataW.weights_mem_each ht hd n h2)
  simpa using this
end
section
open Go.ChangeShapes Go.WideShapes Go.ChangeAt Go.RowKit Go.Deep Go.Joins
/-- A slice of rows of bytes, all within the reach. -/
structure RowsIn (w : World) (v : Value) (len : Nat) : Prop where
  form : ∃ a cap, v = .slice a len cap ∧ len ≤ cap ∧ (len = 0 ∨ ∃ b off, a = some ⟨b, off, none⟩ ∧ ∀ i, i < len → ∃ u xs, w.cell? ⟨b, off + i, none⟩ = some u ∧ BSl w u xs ∧ xs.length ≤ 140737488351232)
  max : len ≤ 9223372036854775807

theorem rows_open {H : Type} {enc : TypeId × Value → H} {W : World} {base fuel : Nat} {held : Bool} {v : Value} {y : DataW H × List MemPlace} (h : DataW.trod enc Tryz.prog W base (fun _ => true) held fuel 22 [v] = some y)
    {ts : List TypeId} {ds : List (DataW H)} (hsz : (DataW.weightsEach Tryz.prog ts ds).all (· ≤ reachBytes) = true) {j : Nat} (ht : ts[j]? = some 22) (hd : ds[j]? = some y.1) : ∃ len, RowsIn W v len := by
  rcases open_int_rows Tryz.underlying22 Tryz.underlying46 Tryz.underlying5 Tryz.cells_bytes Tryz.cells5 h with ⟨hcs, _⟩ | ⟨a, len, cap, A, L, C, Z, hcs, _, hl, hm, hx, hcell⟩
  · injection hcs with hcs _
    subst hcs
    exact ⟨0, ⟨none, 0, rfl, Nat.le_refl _, .inl rfl⟩, by omega⟩
  · injection hcs with hcs _
    subst hcs
    refine ⟨len, ⟨some a, cap, rfl, hl, ?_⟩, by unfold maxLen at hm; omega⟩
    by_cases hz : len = 0
    · exact .inl hz
    · obtain ⟨b, off, spot⟩ := a
      have h1 := (hcell 0 (by omega)).1
      have hspot : spot = none := by simpa [Addr.add] using World.cell?_spot h1
      subst hspot
      refine .inr ⟨b, off, rfl, fun i hi => ?_⟩
      obtain ⟨c1, c2, c3, c4, c5, c6, c7⟩ := hcell i (by omega)
      have hadd : (⟨b, off, none⟩ : Addr).add i = ⟨b, off + i, none⟩ := by unfold Addr.add; split <;> simp_all
      rw [hadd] at c1
      refine ⟨_, _, c1, bsl_of_row (A i) (L i) (C i) (Z i) c2 c3 c4 c5 c6 (fun a' h => (c7 a' h).2), ?_⟩
      have hlen : (((Z i).take (L i)).map Int.toNat).length = L i := by simp; omega
      rw [hlen]
      cases hAi : A i with
      | none => have := c6 hAi; omega
      | some a' =>
        have hd1 := congrArg Prod.fst hx
        simp only at hd1
        rw [hd1] at hd
        have h2 := rows_reach hsz (j := j) ht hd (d := intRow .u8 (A i) (L i) (Z i)) (List.mem_map.2 ⟨i, List.mem_range.2 hi, rfl⟩) (n := C i) (by rw [hAi]; exact row_weight a' _ _ _ c4)
        unfold reachBytes at h2
        omega
end
section
open Go.RowKit Go
/-- A string's bytes. -/
def sl (s : ByteArray) : List Nat := s.data.toList.map UInt8.toNat
theorem sl_byte (s : ByteArray) : ∀ x ∈ sl s, x < 256 := fun x hx => by
  obtain ⟨u, _, rfl⟩ := List.mem_map.1 hx
  exact u.toNat_lt
theorem sl_len (s : ByteArray) : (sl s).length = s.size := by
  unfold sl
  rw [List.length_map, Array.length_toList]
  rfl
theorem sl_get (s : ByteArray) (j : Nat) : (sl s).getD j 0 = (s.data.toList.getD j 0).toNat := by
  simp only [sl, List.getD, List.getElem?_map]
  cases s.data.toList[j]? <;> simp
/-- '[]byte(s)' of a string that is no constant. -/
theorem conv_sb (w : World) (s : ByteArray) : (convert 9 46 (.string s)).run Tryz.prog w = .ok (.slice (some ⟨w.heap.size, 0, none⟩) s.size (grownCap w s.size 0 5)) (Lib.bytesWorld w 5 s) := Lib.run_convert_string_bytes w 9 46 5 s Tryz.underlying9 Tryz.underlying46 Tryz.underlying5
theorem conv_sb_below (w : World) (s : ByteArray) : Below w.heap.size w (Lib.bytesWorld w 5 s) :=
  ⟨rfl, rfl, rfl, by rw [Lib.bytesWorld_size]; omega, fun k hk => Lib.bytesWorld_at_old w 5 s k hk⟩
theorem conv_sb_bsl (w : World) (s : ByteArray) (hs : s.size ≤ 9223372036854775807) : BSl (Lib.bytesWorld w 5 s) (.slice (some ⟨w.heap.size, 0, none⟩) s.size (grownCap w s.size 0 5)) (sl s) := by
  refine ⟨⟨_, _, by rw [sl_len], ⟨by rw [sl_len]; exact grownCap_ge w s.size 0 5, fun h => by cases h⟩, .inr ⟨w.heap.size, 0, rfl, fun j hj => ?_⟩⟩, by rw [sl_len]; exact hs, sl_byte s⟩
  rw [sl_len] at hj
  rw [Nat.zero_add, Lib.bytesWorld_cell w 5 s j hj, sl_get]
end
section
open Go.RowKit Go
theorem lthird_back {v : Int} {c a n : Nat} {b : List Nat} {l : Lk} (h : lthird v c a b = (l, n, 0)) : okd l.h l.d ∧ l.v = v ∧ l.c = c ∧ a ≤ n ∧ n - a ≤ (b.drop a).length ∧ l.h :: l.d.length :: l.d = (b.drop a).take (n - a) := by
  unfold lthird at h
  split at h
  · rename_i h0
    simp only [Prod.mk.injEq] at h
    obtain ⟨h1, h2, _⟩ := h
    have hb := dread_back h0
    have hk : okd (dread (b.drop a)).1 (dread (b.drop a)).2.1 := dlay_okd.1 (by rw [hb.2.1])
    have hd := dlay_ok hk
    rw [hd] at hb
    subst h1
    have e : n - a = (dread (b.drop a)).2.2.1 := by omega
    refine ⟨hk, rfl, rfl, by omega, by omega, ?_⟩
    rw [e]
    exact congrArg Prod.fst hb.2.1
  · rename_i h0
    simp only [Prod.mk.injEq] at h
    have := h.2.2
    unfold lerr at this
    split at this <;> omega
theorem lfirst_back {b : List Nat} {l : Lk} {n : Nat} (hb : ∀ x ∈ b, x < 256) (h : lfirst b = (l, n, 0)) : lok l ∧ n ≤ b.length ∧ lbytes l = b.take n := by
  unfold lfirst at h
  split at h
  · rename_i h18
    obtain ⟨hk, hv, hc, _, hn, he⟩ := lthird_back h
    rw [List.drop_zero, Nat.sub_zero] at hn he
    have hh : l.h = 18 := by
      cases b with
      | nil => simp at h18
      | cons x b =>
        simp at h18
        subst h18
        cases n with
        | zero => simp at he
        | succ n =>
          rw [List.take_succ_cons] at he
          injection he
    have hd : l.d.length = 32 := by
      rcases hk with h1 | h1
      · exact h1.2
      · omega
    refine ⟨.inl ⟨hv, hc, hh, hd⟩, hn, ?_⟩
    unfold lbytes
    rw [if_pos hv]
    exact he
  · split at h
    · simp at h
    · rename_i hn1
      split at h
      · simp at h
      · rename_i hv1
        split at h
        · simp at h
        · rename_i hn2
          generalize hd1 : dnum b = r1 at *
          obtain ⟨v1, u1, e1⟩ := r1
          simp only [ne_eq, Decidable.not_not] at hn1 hv1 hn2 h
          subst hn1
          subst hv1
          generalize hd2 : dnum (b.drop u1) = r2 at *
          obtain ⟨c2, u2, e2⟩ := r2
          simp only at hn2 h
          subst hn2
          have d1 := dnum_back hb hd1
          have d2 := dnum_back (fun x hx => hb x (List.mem_of_mem_drop hx)) hd2
          obtain ⟨hk, hv, hc, ha, hn, he⟩ := lthird_back h
          have f1 : u1 = 1 := by
            have := congrArg List.length d1.2.2
            rw [digs_small (by decide), List.length_take] at this
            simp at this
            omega
          rw [List.length_drop] at d2 hn
          refine ⟨.inr ⟨hv, by rw [hc]; exact d2.1, hk⟩, by omega, ?_⟩
          unfold lbytes
          rw [if_neg (by rw [hv]; decide), hc, he, d2.2.2]
          have g1 : [1] = b.take u1 := by rw [← d1.2.2, digs_small (by decide)]
          have g2 : (1 : Nat) :: (b.drop u1).take u2 = b.take (u1 + u2) := by
            rw [List.take_add, ← g1]
            rfl
          rw [g2]
          have g3 : b.take n = b.take ((u1 + u2) + (n - (u1 + u2))) := by
            congr 1
            omega
          rw [g3, List.take_add (i := u1 + u2)]
theorem lparse_back {b : List Nat} {l : Lk} (hb : ∀ x ∈ b, x < 256) (h : lparse b = (l, 0)) : lok l ∧ lbytes l = b := by
  unfold lparse at h
  split at h
  · rename_i h0
    simp only [Prod.mk.injEq] at h
    exact absurd h.2 h0
  · split at h
    · simp at h
    · rename_i h0 h1
      simp only [Prod.mk.injEq, and_true] at h
      simp only [ne_eq, Decidable.not_not] at h0
      have e : lfirst b = (l, (lfirst b).2.1, 0) := by
        rw [← h, ← h0]
      obtain ⟨h2, h3, h4⟩ := lfirst_back hb e
      refine ⟨h2, ?_⟩
      rw [h4, List.take_of_length_le (by omega)]
theorem lbytes_len {l : Lk} (h : lok l) : (lbytes l).length ≤ 76 := by
  have hk := lok_okd h
  have hd := digs_len 9 l.c
  unfold lbytes
  unfold okd at hk
  split
  · simp
    omega
  · simp
    omega
end
section
open Go.RowKit Go
/-- What a digit stands for. -/
def look : List Nat → Nat → Option Nat
  | [], _ => none
  | x :: t, c => if x = c then some 0 else (look t c).map (· + 1)
theorem lbytes_byte {l : Lk} (h : lok l) (hd : ∀ x ∈ l.d, x < 256) : ∀ x ∈ lbytes l, x < 256 := by
  have hk := lok_okd h
  have hdg : ∀ (f n : Nat), ∀ x ∈ digs f n, x < 256 := by
    intro f
    induction f with
    | zero => intro n x hx; simp [digs] at hx
    | succ f ih =>
      intro n x hx
      unfold digs at hx
      split at hx
      · simp at hx
        omega
      · rcases List.mem_cons.1 hx with e | e
        · omega
        · exact ih _ x e
  have hrow : ∀ x ∈ l.h :: l.d.length :: l.d, x < 256 := fun x hx => by
    unfold okd at hk
    simp only [List.mem_cons] at hx
    rcases hx with e | e | e
    · omega
    · omega
    · exact hd x e
  intro x hx
  unfold lbytes at hx
  split at hx
  · exact hrow x hx
  · rcases List.mem_append.1 hx with e | e
    · rcases List.mem_cons.1 e with e | e
      · omega
      · exact hdg 9 l.c x e
    · exact hrow x e
end
section
open Go.RowKit Go

end
section
open Go.RowKit Go
theorem below_alloc4 (w : World) (o : Obj) : Below w.heap.size w (w.alloc o) := (Below.refl _ _).alloc (Nat.le_refl _) _
end
section
open Go.RowKit Go

end
section
open Go.RowKit Go
theorem own_mono4 {w : World} {b b' : Nat} {v : Value} {n : Nat} {xs : List Value} (h : w.ownsRow b 5 1 v n xs) (hb : b' ≤ b) : w.ownsRow b' 5 1 v n xs := by
  refine ⟨h.1, ?_⟩
  rcases h.2 with h1 | ⟨g, cap, cur, e, hg, r⟩
  · exact .inl h1
  · exact .inr ⟨g, cap, cur, e, Nat.le_trans hb hg, r⟩
theorem own_below4 {w w' : World} {b : Nat} {v : Value} {n : Nat} {xs : List Value} (h : w.ownsRow b 5 1 v n xs) (hb : Below w.heap.size w w') : w'.ownsRow b 5 1 v n xs := (Kp.of_below (S := fun _ => False) hb).owns h (fun _ _ e => e)
end
section
open Go.RowKit Go
/-- A link as a value. -/
def lkv (l : Lk) : Value := .agg #[.int .i64 l.v, .int .u64 (l.c : Nat), .int .u64 (l.h : Nat), .string (nstr l.d)]
end
end Go.Proofs.YtadilnmkjcmnnaaGreatDoor
