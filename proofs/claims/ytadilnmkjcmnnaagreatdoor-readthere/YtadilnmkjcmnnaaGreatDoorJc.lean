import Derived.Test.YtadilnmkjcmnnaaGreatDoorJb
import Derived.Test.YtadilnmkjcmnnaaGreatDoorJa
namespace Go.Proofs.YtadilnmkjcmnnaaGreatDoor
section
open Go.RowKit
theorem pow_int8 (k : Nat) : (2 : Int) ^ (8 * k) = ((256 ^ k : Nat) : Int) := by
  rw [Int.pow_mul, Int.natCast_pow]; rfl
end
section
open Go.RowKit
/-! ### Whole rows -/
theorem row_same {w : World} {g : Nat} {old cs : Array Value} {t : TypeId} (h : w.heap[g]? = some (.cells old t (0, 0))) : (w.setRow g cs).heap[g]? = some (.cells cs t (0, 0)) := by
  simp [World.setRow, Array.getElem?_modify, h]
theorem row_other {w : World} {g k : Nat} {cs : Array Value} (h : k ≠ g) : (w.setRow g cs).heap[k]? = w.heap[k]? := by
  have h' : ¬ g = k := fun e => h e.symm
  simp [World.setRow, Array.getElem?_modify, h']
theorem row_kp (w : World) (g : Nat) (cs : Array Value) : Kp (fun q => q = g) w (w.setRow g cs) :=
  ⟨rfl, rfl, rfl, by simp [World.setRow], fun _ _ h => row_other h⟩
theorem wpList_storeRow {ops : Array Oper} {rest : List Oper} {o : Oper} {a : Act} {Q : Exit → Act → World → Prop} {w : World} {T : TypeId} {p x : Operand} (hgd : o.guard = none) (ho : o.op = .store T p x) (g : Nat) (old cs : Array Value) (t : TypeId)
    (hp : a.eval p = .pointer (some ⟨g, 0, none⟩)) (hx : a.eval x = .agg cs) (hg : w.heap[g]? = some (.cells old t (0, 0))) (hi : (Tryz.prog.info? T).map (·.size) = some cs.size) (hn : old.size = cs.size) (h1 : cs.all (·.oneCell') = true)
    (h : wpList Tryz.prog ops Q rest (a.put o.dst undef) (w.setRow g cs)) : wpList Tryz.prog ops Q (o :: rest) a w := by
  refine wpList_plain hgd fun K hK => ?_
  unfold Oper.wp execOp
  have hr : (Instr.storeAt T (.pointer (some ⟨g, 0, none⟩)) (.agg cs)).run Tryz.prog w = .ok () (w.setRow g cs) := by
    simp only [Instr.storeAt, Instr.sureAddr, Sem.run_bind, Sem.run_pure, Result.andThen]
    exact run_storeVar_row (P := Tryz.prog) w g t T old cs hg hi hn h1
  simp only [ho, Sem.run_bind, hp, hx, hr, Result.andThen_ok]
  exact hK _ _ h
end
section
open Go.RowKit
/-! ### Eq -/
end
section
open Go.RowKit
set_option maxRecDepth 1000000 in
set_option maxHeartbeats 400000 in
theorem copy_any (w : World) (v : Value) (xs : List Nat) (hsl : BSl w v xs) (hlen : xs.length ≤ 140737488351232) :
    Calls Tryz.prog 26 #[v] w fun e w' => ∃ v', e = .returned v' ∧ w'.ownsRow w.heap.size 5 1 v' xs.length (bv xs) ∧ Below w.heap.size w w' := by
  have HSL := hide hsl
  have HL := hide hlen
  obtain ⟨⟨a, cap, rfl, hn, hc⟩, hmax, hb⟩ := hsl
  clear hn hc hb hlen
  go_enter Tryz.func26, Tryz.ntmps26
  go_wp2_with (at_builtin; refine append_bsl rfl _ _ rfl w.heap.size _ 0 [] rfl (World.ownsRow_nil _ _ _ _) _ xs rfl HSL.out ?b1 ?b2 ?_)
  case b1 => have := HL.out; omega
  case b2 => exact Nat.le_refl _
  intro v1 w1 ho1 hg1
  have hb1 : Below w.heap.size w w1 := (Below.refl _ _).grown hg1 (Nat.le_refl _) (fun q hq => by cases hq)
  have HO1 := hide ho1
  have HB1 := hide hb1
  clear ho1 hb1 hg1
  go_wp2
  go_ret
  exact ⟨_, rfl, by simpa using HO1.out, HB1.out⟩

/-- What Lay of the document tells. -/
def dlay (h : Nat) (d : List Nat) : List Nat × Nat :=
  if h ≠ 18 ∧ h ≠ 0 then ([], 30) else if (h = 18 ∧ d.length ≠ 32) ∨ (h = 0 ∧ 64 < d.length) then ([], 31) else (h :: d.length :: d, 0)
end
section
open Go.RowKit
def digs : Nat → Nat → List Nat
  | 0, _ => []
  | f + 1, n => if n < 128 then [n] else (n % 128 + 128) :: digs f (n / 128)

theorem digs_small {f n : Nat} (h : n < 128) : digs (f + 1) n = [n] := by simp [digs, h]
theorem digs_big {f n : Nat} (h : 128 ≤ n) : digs (f + 1) n = (n % 128 + 128) :: digs f (n / 128) := by
  have : ¬ n < 128 := by omega
  simp [digs, this]
/-- What a step of the loop keeps: the number is 128 or more, so there is fuel for another. -/
theorem fuel_down {f n : Nat} (h : 128 ≤ n) (hf : n < 128 ^ (f + 1)) : ∃ g, f = g + 1 ∧ n / 128 < 128 ^ (g + 1) := by
  match f, hf with
  | 0, hf => simp at hf; omega
  | g + 1, hf => exact ⟨g, rfl, by rw [Nat.pow_succ] at hf; exact Nat.div_lt_of_lt_mul (by omega)⟩
theorem digs_len : ∀ f n, (digs f n).length ≤ f
  | 0, _ => by simp [digs]
  | f + 1, n => by
    unfold digs; split
    · simp
    · have := digs_len f (n / 128); simp; omega
end
section
open Go.RowKit
/-! ### Plain -/
/-- What Read tells: k bytes have gone by, m is what they come to. -/
def rd : Nat → Nat → List Nat → Nat × Nat × Nat
  | k, _, [] => if k = 9 then (0, 0, 11) else (0, 0, 10)
  | k, m, x :: r => if k = 9 then (0, 0, 11) else if 128 ≤ x then rd (k + 1) (m + x % 128 * 128 ^ k) r else if x = 0 ∧ 0 < k then (0, 0, 12) else (m + x % 128 * 128 ^ k, k + 1, 0)

theorem and127 (x : Nat) (h : x < 256) : bits .and .u8 (x : Int) 127 = ((x % 128 : Nat) : Int) := by
  have := bits_mask .u8 8 (by decide) wraps_u8 7 (by decide) (x : Int) (by omega) (by omega)
  simpa using this
theorem and128 (x : Nat) (h : x < 256) : bits .and .u8 (x : Int) 128 = if 128 ≤ x then 128 else 0 := by
  have h1 := u8_and_nat x 128 h (by omega)
  have h2 := nat_bit 7 x
  have e : (2 : Nat) ^ 7 = 128 := rfl
  rw [e] at h2
  rw [h2] at h1
  have h3 : bits .and .u8 (x : Int) 128 = ((x / 128 % 2 * 128 : Nat) : Int) := h1
  rw [h3]
  split <;> omega
theorem pow7 (k : Nat) : 2 ^ (7 * k) = 128 ^ k := by rw [Nat.pow_mul]
theorem small_pow (k : Nat) (h : k ≤ 8) : 128 ^ k ≤ 72057594037927936 := by
  have h2 : 128 ^ k ≤ 128 ^ 8 := Nat.pow_le_pow_right (by decide) h
  exact h2
theorem step_val (x m k : Nat) (hx : x < 256) (hk : k ≤ 8) (hm : m < 128 ^ k) :
    bits .or .u64 (m : Int) (IntKind.u64.wrap (IntKind.u64.wrap (bits .and .u8 (x : Int) 127) * 2 ^ (7 * k))) = ((m + x % 128 * 128 ^ k : Nat) : Int) := by
  rw [and127 x hx]
  have hp := small_pow k hk
  have hy : x % 128 * 128 ^ k < 128 * 72057594037927936 := by
    have h1 : x % 128 < 128 := by omega
    have h2 : 0 < 128 ^ k := Nat.pow_pos (by decide)
    calc x % 128 * 128 ^ k < 128 * 128 ^ k := Nat.mul_lt_mul_of_pos_right h1 h2
      _ ≤ 128 * 72057594037927936 := Nat.mul_le_mul_left _ hp
  have e1 : IntKind.u64.wrap (((x % 128 : Nat)) : Int) = ((x % 128 : Nat) : Int) := by rw [IntKind.wrap_u64]; omega
  have e2 : ((x % 128 : Nat) : Int) * 2 ^ (7 * k) = ((x % 128 * 128 ^ k : Nat) : Int) := by
    rw [Int.natCast_mul, ← pow7, Int.natCast_pow]; rfl
  rw [e1, e2]
  generalize hY : x % 128 * 128 ^ k = y at *
  have e3 : IntKind.u64.wrap ((y : Nat) : Int) = ((y : Nat) : Int) := by rw [IntKind.wrap_u64]; omega
  rw [e3, u64_or_nat m y (by omega) (by omega)]
  rw [Nat.or_comm, nat_join (7 * k) y m (by rw [pow7, ← hY]; exact Nat.mul_mod_left _ _) (by rw [pow7]; exact hm), Nat.add_comm]
theorem next_small (x m k : Nat) (hm : m < 128 ^ k) : m + x % 128 * 128 ^ k < 128 ^ (k + 1) := by
  have h1 : x % 128 ≤ 127 := by omega
  have h2 : x % 128 * 128 ^ k ≤ 127 * 128 ^ k := Nat.mul_le_mul_right _ h1
  rw [Nat.pow_succ]
  omega
theorem drop_at (xs : List Nat) (k : Nat) (h : k < xs.length) : xs.drop k = xs.getD k 0 :: xs.drop (k + 1) := by
  rw [List.drop_eq_getElem_cons h]
  simp [List.getD, h]

/-! ### The walk -/
set_option maxRecDepth 1000000 in
set_option maxHeartbeats 400000 in
theorem vread_any (b off len cap : Nat) (xs : List Nat) (w : World) (hz : xs.length = len) (hmax : len ≤ 9223372036854775807)
    (hc : ∀ j, j < len → w.cell? ⟨b, off + j, none⟩ = some (.int .u8 (xs.getD j 0 : Nat)))
    (hr : ∀ j : Nat, xs.getD j 0 < 256) :
    Calls Tryz.prog 190 #[.slice (some ⟨b, off, none⟩) len cap] w fun e w' => e = .returned (.tuple #[.int .u64 (rd 0 0 xs).1, .int .i64 (rd 0 0 xs).2.1, .int .i64 (rd 0 0 xs).2.2]) ∧ w' = w := by
  generalize hR : rd 0 0 xs = R
  have HR0 := hide hR
  clear hR
  go_enter Tryz.func190, Tryz.ntmps190
  go_wp2
  refine scope_again 0 (fun a' w' => w' = w ∧ ∃ (m k : Nat) (u7 u8 u9 u10 u11 u12 u13 u14 u15 u16 u17 u18 u19 u20 u21 u22 u23 u24 u25 u26 u27 u28 u29 u30 u31 u32 u33 u34 u35 u36 u37 u38 : Value), a' = { tmps := #[.slice (some ⟨b, off, none⟩) len cap, undef, .int .u64 0, .int .i64 0, .int .i64 0, .int .u64 m, .int .i64 k, u7, u8, u9, u10, u11, u12, u13, u14, u15, u16, u17, u18, u19, u20, u21, u22, u23, u24, u25, u26, u27, u28, u29, u30, u31, u32, u33, u34, u35, u36, u37, u38], defers := [] } ∧ k ≤ 9 ∧ k ≤ len ∧ m < 128 ^ k ∧ rd k m (xs.drop k) = R) (fun a' _ => 10 - (intOf (a'.tmps.getD 6 undef)).toNat) rfl ?_ ?_
  · clear HR0
    rintro a' w' ⟨rfl, m, k, u7, u8, u9, u10, u11, u12, u13, u14, u15, u16, u17, u18, u19, u20, u21, u22, u23, u24, u25, u26, u27, u28, u29, u30, u31, u32, u33, u34, u35, u36, u37, u38, rfl, hk, hkl, hm, hrel⟩
    have HM := hide hm
    have HREL := hide hrel
    have HZ := hide hz
    have hcell : k < len → w'.cell? ⟨b, off + k, none⟩ = some (.int .u8 (xs.getD k 0 : Nat)) := fun h => hc k h
    have hrk : ((xs.getD k 0 : Nat) : Int) < 256 := by have := hr k; omega
    have hdr : Hid (k < len → xs.drop k = xs.getD k 0 :: xs.drop (k + 1)) := fun h => drop_at xs k (by omega)
    generalize xs.getD k 0 = x at *
    clear hc hr hm hrel hz
    by_cases h9 : k = 9
    · have h9' : ((k : Int) == 9) = true := beq_iff_eq.2 (by omega)
      have hend : R = (0, 0, 11) := by
        rw [← HREL.out, h9]; cases xs.drop 9 <;> rfl
      subst h9
      subst hend
      clear HREL hdr HM
      go_wp2
      simp only [Exit.jump]
      go_ret3
      exact ⟨rfl, rfl⟩
    · have h9' : ((k : Int) == 9) = false := beq_eq_false_iff_ne.2 (by omega)
      by_cases hl : k = len
      · have hl' : ((k : Int) == (len : Int)) = true := beq_iff_eq.2 (by omega)
        have hend : R = (0, 0, 10) := by
          rw [← HREL.out, List.drop_eq_nil_of_le (by have := HZ.out; omega)]; simp [rd, h9]
        subst hend
        clear HREL hdr HM h9 hcell
        go_wp2
        simp only [Exit.jump]
        go_ret3
        exact ⟨rfl, rfl⟩
      · have hl' : ((k : Int) == (len : Int)) = false := beq_eq_false_iff_ne.2 (by omega)
        have hlt : k < len := by omega
        have hcc := hcell hlt
        have hrd := HREL.out
        rw [hdr.out hlt] at hrd
        have HRD := hide hrd
        have hx : x < 256 := by omega
        have HSV := hide (step_val x m k hx (by omega) HM.out)
        have hk8 : k ≤ 8 := by omega
        clear hrd HREL hdr hcell h9 hl HZ
        by_cases hb : 128 ≤ x
        · have ha : (bits .and .u8 (x : Int) 128 != 0) = true := by rw [and128 x hx, if_pos hb]; rfl
          go_wp2
          go_step3
          rw [HSV.out]
          refine ⟨rfl, ⟨rfl, m + x % 128 * 128 ^ k, k + 1, _, _, _, _, _, _, _, _, _, _, _, _, _, _, _, _, _, _, _, _, _, _, _, _, _, _, _, _, _, _, _, _, rfl, by omega, by omega, next_small x m k HM.out, ?_⟩, ?_⟩
          · have h := HRD.out
            have h9 : k ≠ 9 := by have := beq_eq_false_iff_ne.1 h9'; omega
            rw [rd, if_neg h9, if_pos hb] at h
            exact h
          · simp [intOf]; omega
        · have ha : (bits .and .u8 (x : Int) 128 != 0) = false := by rw [and128 x hx, if_neg hb]; rfl
          have h := HRD.out
          have h9 : k ≠ 9 := by have := beq_eq_false_iff_ne.1 h9'; omega
          rw [rd, if_neg h9, if_neg hb] at h
          clear h9 HRD
          by_cases hq : x = 0 ∧ 0 < k
          · rw [if_pos hq] at h
            subst h
            obtain ⟨hx0, hk0⟩ := hq
            have hx0' : ((x : Int) == 0) = true := beq_iff_eq.2 (by omega)
            have hk0' : decide ((1 : Int) < (k : Int) + 1) = true := by simp; omega
            clear HSV HM hx0
            go_wp2
            all_goals simp only [Exit.jump]
            all_goals go_ret3
            all_goals exact ⟨rfl, rfl⟩
          · rw [if_neg hq] at h
            subst h
            have HQ := hide hq
            clear hq
            by_cases hx0 : x = 0
            · have hx0' : ((x : Int) == 0) = true := beq_iff_eq.2 (by omega)
              have hk0 : k = 0 := by have := HQ.out; omega
              have hk0' : decide ((1 : Int) < (k : Int) + 1) = false := by simp; omega
              have hk1 : ¬ ((1 : Int) < (k : Int) + 1) := by omega
              clear hx0 hk0
              go_wp2
              simp only [Exit.jump]
              rw [HSV.out]
              go_ret3
              exact ⟨rfl, rfl⟩
            · have hx0' : ((x : Int) == 0) = false := beq_eq_false_iff_ne.2 (by omega)
              clear hx0
              go_wp2
              simp only [Exit.jump]
              rw [HSV.out]
              go_ret3
              exact ⟨rfl, rfl⟩
  · intro HR
    go_wp2
    go_step3
    rename_i hK
    exact hK _ _ (HR.out _ _ ⟨rfl, 0, 0, _, _, _, _, _, _, _, _, _, _, _, _, _, _, _, _, _, _, _, _, _, _, _, _, _, _, _, _, _, _, _, _, rfl, by omega, by omega, by decide, by simpa using HR0.out⟩)

set_option maxRecDepth 1000000 in
set_option maxHeartbeats 400000 in
theorem vread_empty (a : Option Addr) (cap : Nat) (w : World) :
    Calls Tryz.prog 190 #[.slice a 0 cap] w fun e w' => e = .returned (.tuple #[.int .u64 0, .int .i64 0, .int .i64 10]) ∧ w' = w := by
  go_enter Tryz.func190, Tryz.ntmps190
  go_wp2
  refine wp_scope_jumps 0 (fun _ _ => False) (fun _ _ => 0) rfl ?_ (fun _ _ h => h.elim)
  go_wp2
  go_step3
  go_wp2
  simp only [Exit.jump]
  go_ret3
  exact ⟨rfl, rfl⟩
theorem BSl.vread {w : World} {v : Value} {xs : List Nat} (h : BSl w v xs) :
    Calls Tryz.prog 190 #[v] w fun e w' => e = .returned (.tuple #[.int .u64 (rd 0 0 xs).1, .int .i64 (rd 0 0 xs).2.1, .int .i64 (rd 0 0 xs).2.2]) ∧ w' = w := by
  obtain ⟨⟨a, cap, rfl, _, hc⟩, hmax, hb⟩ := h
  rcases hc with rfl | ⟨b, off, rfl, hc⟩
  · exact vread_empty a cap w
  · exact vread_any b off xs.length cap xs w rfl hmax hc (getD_lt hb)
end
section
open Go.RowKit
/-- What Number of the document tells. -/
def dnum (xs : List Nat) : Nat × Nat × Nat := if (rd 0 0 xs).2.2 = 0 then rd 0 0 xs else (0, 0, if (rd 0 0 xs).2.2 = 10 then 32 else 33)
def dnumR (r : Nat × Nat × Nat) : Value := .tuple #[.int .u64 (r.1 : Nat), .int .i64 (r.2.1 : Nat), .int .i64 (r.2.2 : Nat)]
end
end Go.Proofs.YtadilnmkjcmnnaaGreatDoor
