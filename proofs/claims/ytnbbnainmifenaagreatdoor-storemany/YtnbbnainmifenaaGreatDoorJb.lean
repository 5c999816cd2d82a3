import Derived.Test.YtnbbnainmifenaaGreatDoorJa
import Derived.Deep.RegionLaw
import Derived.Deep.LoopGhost
import Derived.Deep.DeepCutAuto
import Derived.Deep.QuietTactic
import Derived.StillTail
import Derived.Laws.CopyOwn
import Derived.Lib.SliceRun
namespace Go.Proofs.YtnbbnainmifenaaGreatDoor
section
open Go.RowKit

end
section
open Go.RowKit

end
section
open Go.RowKit
theorem zer_lt (n : Nat) : zer n < 64 := by unfold zer; omega
theorem zer_mod (n : Nat) : (n + 1 + zer n) % 64 = 56 := by unfold zer; omega

theorem beb_get : ∀ k n j, j < k → (beb k n).getD j 0 = n / 256 ^ (k - 1 - j) % 256
  | 0, _, _, h => by omega
  | k + 1, n, 0, _ => by simp [beb]
  | k + 1, n, j + 1, h => by
    have e : k + 1 - 1 - (j + 1) = k - 1 - j := by omega
    rw [e, ← beb_get k n j (by omega)]
    simp [beb]
theorem pow_int8 (k : Nat) : (2 : Int) ^ (8 * k) = ((256 ^ k : Nat) : Int) := by
  rw [Int.pow_mul, Int.natCast_pow]; rfl
theorem take_snoc3 (l : List Nat) (j : Nat) (h : j < l.length) : l.take (j + 1) = l.take j ++ [l.getD j 0] := by
  rw [List.take_succ_eq_append_getElem h]
  simp [List.getD, h]
def lenOf : Value → Nat
  | .slice _ n _ => n
  | _ => 0
theorem own_lenOf {w : World} {base : Nat} {e : TypeId} {v : Value} {n : Nat} {xs : List Value} (h : w.ownsRow base e 1 v n xs) : lenOf v = n := by
  obtain ⟨a, c, rfl, _⟩ := own_form h
  rfl

set_option maxRecDepth 1000000 in
set_option maxHeartbeats 4000000 in
theorem lengthened_any (w : World) (v : Value) (xs : List Nat) (hsl : BSl w v xs) (hlen : xs.length ≤ 140737488351232) :
    Calls Tryz.prog 48 #[v] w fun e w' => ∃ v', e = .returned v' ∧ w'.ownsRow w.heap.size 5 1 v' (pad xs).length (bv (pad xs)) ∧ Below w.heap.size w w' := by
  have HSL := hide hsl
  obtain ⟨⟨a, cap, rfl, hn, hc⟩, hmax, hb⟩ := hsl
  have HBY := hide hb
  clear hn hc hb
  generalize hB : w.heap.size = B at *
  have HB := hide hB
  clear hB
  have HL := hide hlen
  clear hlen
  go_enter Tryz.func48, Tryz.ntmps48
  go_wp2_with (at_builtin; refine append_bsl rfl _ _ rfl B _ 0 [] rfl (World.ownsRow_nil _ _ _ _) _ xs rfl HSL.out ?b1 ?b2 ?_)
  case b1 => have := HL.out; omega
  case b2 => have := HB.out; omega
  intro v1 w1 ho1 hg1
  have hb1 : Below B w w1 := (Below.refl _ _).grown hg1 (by have := HB.out; omega) (fun q hq => by cases hq)
  have HO1 := hide ho1
  have HB1 := hide hb1
  have hs1 : B ≤ w1.heap.size := by have := hb1.size; have := HB.out; omega
  clear ho1 hb1 hg1
  have HS1 := hide (one_bsl w1 128 (by decide))
  have HA1 := hide (HO1.out.alloc (.cells #[.int .u8 128] 5))
  go_wp2_with (at_builtin; refine append_bsl rfl _ _ rfl B _ xs.length xs rfl HA1.out _ [128] rfl HS1.out ?b1 ?b2 ?_)
  case b1 => have := HL.out; simp; omega
  case b2 => simp; omega
  intro v2 w2 ho2 hg2
  have hlo := fun g (h : _ = some g) => (HA1.out.lt g h).1
  have HB2 : Hid (Below B w w2) := (HB1.out.alloc hs1 _).grown hg2 (by simp; omega) (fun g hg => hlo g hg)
  have HO2 := hide ho2
  clear ho2 hg2 hlo HA1 HS1 HO1 HB1 hs1
  go_wp2
  go_loopw [3] (fun u wx => ∃ z : Nat, z ≤ zer xs.length ∧ lenOf u = xs.length + 1 + z ∧ Hid (wx.ownsRow B 5 1 u (xs.length + 1 + z) (bv (xs ++ [128] ++ List.replicate z 0))) ∧ Hid (Below B w wx)) (fun u _ => xs.length + 1 + zer xs.length - lenOf u)
  case atStart => exact ⟨0, Nat.zero_le _, own_lenOf HO2.out, by show World.ownsRow _ _ _ _ _ _ _; simpa using HO2.out, HB2⟩
  case round =>
    obtain ⟨z, hz, hlz, HO, HBL⟩ := hrel
    clear HO2 HB2
    obtain ⟨au, cu, hv, hv1, hv2, hv3⟩ := own_form HO.out
    subst hv
    clear hv1 hv2 hv3
    have hzl := zer_lt xs.length
    have hzm := zer_mod xs.length
    have hs3 : B ≤ wr.heap.size := by have := HBL.out.size; have := HB.out; omega
    by_cases hlt : z < zer xs.length
    · have hne : (((xs.length : Int) + 1 + (z : Int)) % 64 != 56) = true := bne_iff_ne.2 (by omega)
      have HS1 := hide (one_bsl wr 0 (by decide))
      have HA1 := hide (HO.out.alloc (.cells #[.int .u8 0] 5))
      go_wp2_with (at_builtin; refine append_bsl rfl _ _ rfl B _ (xs.length + 1 + z) _ rfl HA1.out _ [0] rfl HS1.out ?b1 ?b2 ?_)
      case b1 => have := HL.out; simp; omega
      case b2 => simp; omega
      intro v3 w3 ho3 hg3
      have hlo := fun g (h : _ = some g) => (HA1.out.lt g h).1
      have HB3 : Hid (Below B w w3) := (HBL.out.alloc hs3 _).grown hg3 (by simp; omega) (fun g hg => hlo g hg)
      have HO3 : Hid (w3.ownsRow B 5 1 v3 (xs.length + 1 + (z + 1)) (bv (xs ++ [128] ++ List.replicate (z + 1) 0))) := by
        show World.ownsRow _ _ _ _ _ _ _
        have h := ho3
        rw [List.replicate_succ']
        simpa [Nat.add_assoc] using h
      clear ho3 hg3 hlo HA1 HS1
      obtain ⟨a3, c3, hv3, hv1, hv2, hv4⟩ := own_form HO3.out
      subst hv3
      clear hv1 hv2 hv4
      go_wp2
      go_roundw
      case rel => exact ⟨z + 1, by omega, rfl, HO3, HB3⟩
      case measure => simp [lenOf]; omega
    · have hzz : z = zer xs.length := by omega
      have hne : (((xs.length : Int) + 1 + (z : Int)) % 64 != 56) = false := bne_eq_false_iff_eq.2 (by omega)
      subst hzz
      have HPD : Hid (pad xs = xs ++ [128] ++ List.replicate (zer xs.length) 0 ++ beb 8 (8 * xs.length)) := rfl
      have hPL : (xs ++ [128] ++ List.replicate (zer xs.length) 0).length = xs.length + 1 + zer xs.length := by simp; omega
      have HPL := hide hPL
      clear hPL
      generalize xs ++ [128] ++ List.replicate (zer xs.length) 0 = D at *
      have hL9 : xs.length + 1 + zer xs.length ≤ 140737488352232 := by have := HL.out; omega
      have HL9 := hide hL9
      clear hL9
      generalize xs.length + 1 + zer xs.length = L at *
      have hl8 : xs.length ≤ 140737488351232 := HL.out
      have hneL : ((L : Int) % 64 != 56) = false := bne_eq_false_iff_eq.2 (by omega)
      go_wp2
      clear hne hl8
      have HN8 : Hid (8 * xs.length < 9223372036854775808) := by have := HL.out; show _ < _; omega
      have hNN : 8 * (xs.length : Int) = ((8 * xs.length : Nat) : Int) := by omega
      rw [hNN]
      clear hNN
      generalize 8 * xs.length = N at *
      go_loopw [3, 5] (fun u q wx => ∃ j : Nat, j ≤ 8 ∧ q = .int .i64 (7 - (j : Int)) ∧ Hid (wx.ownsRow B 5 1 u (L + j) (bv (D ++ (beb 8 N).take j))) ∧ Hid (Below B w wx)) (fun _ q _ => (intOf q + 1).toNat)
      case atStart => exact ⟨0, by omega, by simp, by show World.ownsRow _ _ _ _ _ _ _; simpa using HO.out, HBL⟩
      case round =>
        obtain ⟨j, hj, rfl, HO4, HBL4⟩ := hrel
        clear HO HBL
        rename World => wz
        have hs4 : B ≤ wz.heap.size := by have := HBL4.out.size; have := HB.out; omega
        by_cases hlt2 : j < 8
        · have hlt2' : (0 : Int) ≤ 7 - (j : Int) := by omega
          have hidx : (7 - (j : Int)) = ((7 - j : Nat) : Int) := by omega
          rw [hidx]
          have hq8 : 7 - j < 8 := by omega
          have HTK : Hid ((beb 8 N).take (j + 1) = (beb 8 N).take j ++ [N / 256 ^ (7 - j) % 256]) := by
            show _ = _
            rw [← beb_get 8 N j hlt2]
            exact take_snoc3 _ _ (by rw [beb_len]; exact hlt2)
          have HID : Hid (((7 - j : Nat) : Int) - 1 = 7 - ((j + 1 : Nat) : Int)) := by show _ = _; omega
          generalize 7 - j = q at *
          clear hidx hlt2'
          have hc : ((N / 256 ^ q % 256 : Nat) : Int) = (N : Int) / 2 ^ (8 * q) % 256 := by rw [pow_int8]; omega
          have HS1 := hide (one_bsl wz (N / 256 ^ q % 256) (Nat.mod_lt _ (by decide)))
          rw [hc] at HS1
          have HA1 := hide (HO4.out.alloc (.cells #[.int .u8 ((N : Int) / 2 ^ (8 * q) % 256)] 5))
          clear hc HO4
          have hn8 : N < 9223372036854775808 := HN8.out
          go_wp2_with (at_builtin; refine append_bsl rfl _ _ rfl B _ (L + j) _ rfl HA1.out _ [N / 256 ^ q % 256] rfl HS1.out ?b1 ?b2 ?_)
          case b1 => have := HL9.out; simp; omega
          case b2 => simp; omega
          intro v5 w5 ho5 hg5
          have hlo := fun g (h : _ = some g) => (HA1.out.lt g h).1
          have HB5 : Hid (Below B w w5) := (HBL4.out.alloc hs4 _).grown hg5 (by simp; omega) (fun g hg => hlo g hg)
          have HO5 : Hid (w5.ownsRow B 5 1 v5 (L + (j + 1)) (bv (D ++ (beb 8 N).take (j + 1)))) := by
            show World.ownsRow _ _ _ _ _ _ _
            rw [HTK.out]
            have h := ho5
            simpa [Nat.add_assoc] using h
          clear ho5 hg5 hlo HA1 HS1 HTK
          go_wp2
          go_roundw
          case rel => exact ⟨j + 1, by omega, by rw [← HID.out], HO5, HB5⟩
          case measure => simp [intOf]
        · have hj8 : j = 8 := by omega
          subst hj8
          have ho := HO4.out
          rw [List.take_of_length_le (by rw [beb_len]; exact Nat.le_refl _), ← HPD.out] at ho
          have HO6 := hide ho
          clear ho HO4
          go_wp2
          go_ret
          have e : (pad xs).length = L + 8 := by rw [HPD.out, List.length_append, beb_len, HPL.out]
          rw [e]
          exact ⟨_, rfl, HO6.out, HBL4.out⟩
end
section
open Go.RowKit
set_option maxRecDepth 1000000 in
set_option maxHeartbeats 4000000 in
theorem refFirst_any (w : World) : Calls Tryz.prog 47 #[] w fun e w' => e = .returned (.agg (wv hh).toArray) ∧ Below w.heap.size w w' := by
  go_enter Tryz.func47, Tryz.ntmps47
  go_wp2
  refine bodyPost_ret (v := .agg #[.int .u32 1779033703, .int .u32 3144134277, .int .u32 1013904242, .int .u32 2773480762, .int .u32 1359893119, .int .u32 2600822924, .int .u32 528734635, .int .u32 1541459225]) ((results_one (p := 0) (ty := 93) rfl _ _ _).trans (by go_simp; first | done | rfl)) rfl ⟨by kernel_rfl, ?_⟩
  exact (Below.refl _ _).alloc (Nat.le_refl _) _

theorem pad_len (b : List Nat) : (pad b).length = b.length + 1 + zer b.length + 8 := by simp [pad, beb_len]; omega
theorem pad_mod (b : List Nat) : (pad b).length % 64 = 0 := by rw [pad_len]; have := zer_mod b.length; omega
theorem pad_byte (b : List Nat) (h : ∀ x ∈ b, x < 256) : ∀ x ∈ pad b, x < 256 := by
  intro x hx
  unfold pad at hx
  rcases List.mem_append.1 hx with hx | hx
  · rcases List.mem_append.1 hx with hx | hx
    · rcases List.mem_append.1 hx with hx | hx
      · exact h x hx
      · simp at hx; omega
    · have := List.eq_of_mem_replicate hx; omega
  · exact beb_byte _ _ _ hx
theorem cmp_lt (b : List Nat) (p : Nat) (s : List Nat) : ∀ x ∈ cmp b p s, x < 4294967296 := by
  intro x hx
  unfold cmp at hx
  obtain ⟨i, hi, e⟩ := List.mem_iff_getElem.1 hx
  rw [List.getElem_zipWith] at e
  rw [← e]
  exact Nat.mod_lt _ (by decide)
theorem abs_lt (b s : List Nat) (h : ∀ x ∈ s, x < 4294967296) : ∀ n, ∀ x ∈ abs b s n, x < 4294967296
  | 0, x, hx => h x hx
  | _ + 1, x, hx => cmp_lt _ _ _ x hx
theorem hh_lt : ∀ x ∈ hh, x < 4294967296 := by decide

theorem row_same {w : World} {g : Nat} {old cs : Array Value} {t : TypeId} (h : w.heap[g]? = some (.cells old t (0, 0))) : (w.setRow g cs).heap[g]? = some (.cells cs t (0, 0)) := by
  simp [World.setRow, Array.getElem?_modify, h]
theorem row_other {w : World} {g k : Nat} {cs : Array Value} (h : k ≠ g) : (w.setRow g cs).heap[k]? = w.heap[k]? := by
  have h' : ¬ g = k := fun e => h e.symm
  simp [World.setRow, Array.getElem?_modify, h']
theorem row_kp (w : World) (g : Nat) (cs : Array Value) : Kp (fun q => q = g) w (w.setRow g cs) :=
  ⟨rfl, rfl, rfl, by simp [World.setRow], fun _ _ h => row_other h⟩
theorem row_store {w : World} {g : Nat} {old cs : Array Value} {t : TypeId} (h : w.heap[g]? = some (.cells old t (0, 0))) (hn : cs.size = old.size) (h1 : ∀ v ∈ cs.toList, v.oneCell' = true) : Sem.run Tryz.prog (storeCells ⟨g, 0, none⟩ cs.toList) w = .ok () (w.setRow g cs) := by
  have := run_storeCells_from (P := Tryz.prog) g t cs.toList 0 old w h (by simp; omega) h1
  simpa using this
theorem wpList_loadRow {ops : Array Oper} {rest : List Oper} {o : Oper} {a : Act} {Q : Exit → Act → World → Prop} {w : World} {T e : TypeId} {p : Operand} (hgd : o.guard = none) (ho : o.op = .load T p) (g n : Nat) (cs : Array Value) (t : TypeId)
    (hp : a.eval p = .pointer (some ⟨g, 0, none⟩)) (hg : w.heap[g]? = some (.cells cs t (0, 0))) (hu : Tryz.prog.underlying T = some (.array n e)) (hi : (Tryz.prog.info? T).map (·.size) = some cs.size)
    (h : wpList Tryz.prog ops Q rest (a.put o.dst (.agg cs)) w) : wpList Tryz.prog ops Q (o :: rest) a w := by
  refine wpList_plain hgd fun K hK => ?_
  unfold Oper.wp execOp
  have hr : (Instr.loadAt T (.pointer (some ⟨g, 0, none⟩))).run Tryz.prog w = .ok (.agg cs) w := by
    simp only [Instr.loadAt, Instr.sureAddr, Sem.run_bind, Sem.run_pure, Result.andThen]
    exact run_loadVar_row (P := Tryz.prog) w g t T cs (0, 0) _ hg hu rfl hi
  simp only [ho, Sem.run_bind, hp, hr, Result.andThen_ok]
  exact hK _ _ h
theorem wpList_storeRow {ops : Array Oper} {rest : List Oper} {o : Oper} {a : Act} {Q : Exit → Act → World → Prop} {w : World} {T : TypeId} {p x : Operand} (hgd : o.guard = none) (ho : o.op = .store T p x) (g : Nat) (old cs : Array Value) (t : TypeId)
    (hp : a.eval p = .pointer (some ⟨g, 0, none⟩)) (hx : a.eval x = .agg cs) (hg : w.heap[g]? = some (.cells old t (0, 0))) (hi : (Tryz.prog.info? T).map (·.size) = some cs.size) (hn : old.size = cs.size) (h1 : cs.all (·.oneCell') = true)
    (h : wpList Tryz.prog ops Q rest (a.put o.dst undef) (w.setRow g cs)) : wpList Tryz.prog ops Q (o :: rest) a w := by
  refine wpList_plain hgd fun K hK => ?_
  unfold Oper.wp execOp
  have hr : (Instr.storeAt T (.pointer (some ⟨g, 0, none⟩)) (.agg cs)).run Tryz.prog w = .ok () (w.setRow g cs) := by
    simp only [Instr.storeAt, Instr.sureAddr, Sem.run_bind, Sem.run_pure, Result.andThen]
    exact run_storeVar_row (P := Tryz.prog) w g t T old cs hg hi hn h1
  simp only [ho, Sem.run_bind, hp, hx, hr, Result.andThen_ok]
  exact hK _ _ h
theorem wv_one (l : List Nat) : ∀ v ∈ wv l, v.oneCell' = true := by
  intro v hv
  simp [wv] at hv
  obtain ⟨x, _, rfl⟩ := hv
  rfl
theorem z32_lit : (bv (List.replicate 32 0)).toArray = #[.int .u8 0, .int .u8 0, .int .u8 0, .int .u8 0, .int .u8 0, .int .u8 0, .int .u8 0, .int .u8 0, .int .u8 0, .int .u8 0, .int .u8 0, .int .u8 0, .int .u8 0, .int .u8 0, .int .u8 0, .int .u8 0, .int .u8 0, .int .u8 0, .int .u8 0, .int .u8 0, .int .u8 0, .int .u8 0, .int .u8 0, .int .u8 0, .int .u8 0, .int .u8 0, .int .u8 0, .int .u8 0, .int .u8 0, .int .u8 0, .int .u8 0, .int .u8 0] := by kernel_rfl
theorem info8 : (Tryz.prog.info? 93).map (·.size) = some (wv hh).toArray.size := by kernel_rfl
theorem info32 : (Tryz.prog.info? 77).map (·.size) = some 32 := by kernel_rfl
theorem store_hh (w : World) : Sem.run Tryz.prog (storeCells ⟨w.heap.size, 0, none⟩ (wv hh)) (w.alloc (.cells #[.int .u32 0, .int .u32 0, .int .u32 0, .int .u32 0, .int .u32 0, .int .u32 0, .int .u32 0, .int .u32 0] 93)) = .ok () (w.alloc (.cells (wv hh).toArray 93)) := by
  have h := run_storeCells_new (P := Tryz.prog) w 93 #[.int .u32 0, .int .u32 0, .int .u32 0, .int .u32 0, .int .u32 0, .int .u32 0, .int .u32 0, .int .u32 0] (wv hh).toArray info8 (by kernel_rfl) (by kernel_rfl)
  exact h

theorem outb_len (s : List Nat) (h : s.length = 8) : (outb s).length = 32 := by
  match s, h with
  | [_, _, _, _, _, _, _, _], _ => rfl
theorem out_set (l : List Nat) (hl : l.length = 32) (j : Nat) (hj : j < 32) : (bv (l.take j ++ List.replicate (32 - j) 0)).toArray.setIfInBounds j (.int .u8 ((l.getD j 0 : Nat) : Int)) = (bv (l.take (j + 1) ++ List.replicate (32 - (j + 1)) 0)).toArray := by
  have e : 32 - j = (32 - (j + 1)) + 1 := by omega
  rw [List.setIfInBounds_toArray, e, List.replicate_succ, take_snoc3 l j (by omega)]
  congr 1
  simp only [bv, List.map_append, List.map_cons]
  rw [List.set_append_right _ _ (by simp [hl]; omega)]
  simp [hl, Nat.min_eq_left (Nat.le_of_lt hj)]
theorem outb_byte (s : List Nat) : ∀ x ∈ outb s, x < 256 := by
  intro x hx
  unfold outb at hx
  obtain ⟨y, _, hy⟩ := List.mem_flatMap.1 hx
  exact beb_byte _ _ _ hy
theorem outb_get (s : List Nat) (h : s.length = 8) (j : Nat) (hj : j < 32) : (outb s).getD j 0 = s.getD (j / 4) 0 / 256 ^ (3 - j % 4) % 256 := by
  match s, h with
  | [_, _, _, _, _, _, _, _], _ =>
    rcases (by omega : j = 0 ∨ j = 1 ∨ j = 2 ∨ j = 3 ∨ j = 4 ∨ j = 5 ∨ j = 6 ∨ j = 7 ∨ j = 8 ∨ j = 9 ∨ j = 10 ∨ j = 11 ∨ j = 12 ∨ j = 13 ∨ j = 14 ∨ j = 15 ∨ j = 16 ∨ j = 17 ∨ j = 18 ∨ j = 19 ∨ j = 20 ∨ j = 21 ∨ j = 22 ∨ j = 23 ∨ j = 24 ∨ j = 25 ∨ j = 26 ∨ j = 27 ∨ j = 28 ∨ j = 29 ∨ j = 30 ∨ j = 31) with rfl | rfl | rfl | rfl | rfl | rfl | rfl | rfl | rfl | rfl | rfl | rfl | rfl | rfl | rfl | rfl | rfl | rfl | rfl | rfl | rfl | rfl | rfl | rfl | rfl | rfl | rfl | rfl | rfl | rfl | rfl | rfl <;> rfl

set_option maxRecDepth 1000000 in
set_option maxHeartbeats 4000000 in
theorem refSum_any (w : World) (v : Value) (xs : List Nat) (hsl : BSl w v xs) (hlen : xs.length ≤ 140737488351232) :
    Calls Tryz.prog 30 #[v] w fun e w' => e = .returned (.agg (bv (sha xs)).toArray) ∧ Below w.heap.size w w' := by
  have HSL := hide hsl
  have HL := hide hlen
  clear hsl hlen
  have HR0 : Hid ((w.alloc (.cells #[.int .u8 0, .int .u8 0, .int .u8 0, .int .u8 0, .int .u8 0, .int .u8 0, .int .u8 0, .int .u8 0, .int .u8 0, .int .u8 0, .int .u8 0, .int .u8 0, .int .u8 0, .int .u8 0, .int .u8 0, .int .u8 0, .int .u8 0, .int .u8 0, .int .u8 0, .int .u8 0, .int .u8 0, .int .u8 0, .int .u8 0, .int .u8 0, .int .u8 0, .int .u8 0, .int .u8 0, .int .u8 0, .int .u8 0, .int .u8 0, .int .u8 0, .int .u8 0] 77)).heap[w.heap.size]? = some (.cells (bv (List.replicate 32 0)).toArray 77 (0, 0))) := by
    rw [← z32_lit]; exact heap_alloc_new w _
  have HB0 : Hid (Below w.heap.size w (w.alloc (.cells #[.int .u8 0, .int .u8 0, .int .u8 0, .int .u8 0, .int .u8 0, .int .u8 0, .int .u8 0, .int .u8 0, .int .u8 0, .int .u8 0, .int .u8 0, .int .u8 0, .int .u8 0, .int .u8 0, .int .u8 0, .int .u8 0, .int .u8 0, .int .u8 0, .int .u8 0, .int .u8 0, .int .u8 0, .int .u8 0, .int .u8 0, .int .u8 0, .int .u8 0, .int .u8 0, .int .u8 0, .int .u8 0, .int .u8 0, .int .u8 0, .int .u8 0, .int .u8 0] 77))) := (Below.refl _ _).alloc (Nat.le_refl _) _
  go_enter Tryz.func30, Tryz.ntmps30
  go_wp2_with fail
  generalize w.alloc (.cells #[.int .u8 0, .int .u8 0, .int .u8 0, .int .u8 0, .int .u8 0, .int .u8 0, .int .u8 0, .int .u8 0, .int .u8 0, .int .u8 0, .int .u8 0, .int .u8 0, .int .u8 0, .int .u8 0, .int .u8 0, .int .u8 0, .int .u8 0, .int .u8 0, .int .u8 0, .int .u8 0, .int .u8 0, .int .u8 0, .int .u8 0, .int .u8 0, .int .u8 0, .int .u8 0, .int .u8 0, .int .u8 0, .int .u8 0, .int .u8 0, .int .u8 0, .int .u8 0] 77) = w0 at *
  refine (refFirst_any _).mono ?_
  rintro e w1 ⟨rfl, hb1⟩
  generalize hRR : w.heap.size = R at *
  have HRR := hide hRR
  clear hRR
  have HR1 := hide ((hb1.block R (blk_lt HR0.out)).trans HR0.out)
  have HB1 : Hid (Below R w w1) := HB0.out.trans (hb1.mono (by have := HB0.out.size; have := HRR.out; omega))
  clear hb1 HR0 HB0
  have hst := store_hh w1
  have hhl : (wv hh).length = 8 := by kernel_rfl
  go_wp2_with fail
  have HS2 : Hid ((w1.alloc (.cells (wv hh).toArray 93)).heap[w1.heap.size]? = some (.cells (wv hh).toArray 93 (0, 0))) := heap_alloc_new w1 _
  have HR2 := hide (blk_alloc (.cells (wv hh).toArray 93) HR1.out)
  have hRS : R < w1.heap.size := blk_lt HR1.out
  have HB2 : Hid (Below R w (w1.alloc (.cells (wv hh).toArray 93))) := HB1.out.alloc (by omega) _
  clear hst hhl
  generalize w1.alloc (.cells (wv hh).toArray 93) = w2 at *
  generalize w1.heap.size = S at *
  refine (lengthened_any _ v xs (HSL.out.move (keep_below (by rw [HRR.out]; exact HB2.out))) HL.out).mono ?_
  rintro e w3 ⟨vl, rfl, ho3, hb3⟩
  have HP3 := hide (BSl.own ho3 (pad_byte xs HSL.out.byte))
  have HPO : Hid (∀ q, vl.ownBlock = some q → w2.heap.size ≤ q) := fun q hq => (ho3.lt q hq).1
  have HS3 := hide ((hb3.block S (blk_lt HS2.out)).trans HS2.out)
  have HR3 := hide ((hb3.block R (blk_lt HR2.out)).trans HR2.out)
  have HB3 : Hid (Below R w w3) := HB2.out.trans (hb3.mono (by have := HB2.out.size; have := HRR.out; omega))
  have HS2l : Hid (S < w2.heap.size) := blk_lt HS2.out
  have HZ3 : Hid (w2.heap.size ≤ w3.heap.size) := hb3.size
  obtain ⟨al, cl, hv, hv1, hv2, hv3⟩ := own_form ho3
  subst hv
  clear ho3 hb3 hv1 hv2 hv3 HS2 HR2 HB2 HR1 HB1
  have hpm := pad_mod xs
  have hpl := pad_len xs
  have hpx : (pad xs).length ≤ 140737488355328 := by have := HL.out; have := zer_lt xs.length; omega
  have HPX := hide hpx
  have HSH : Hid (sha xs = outb (abs (pad xs) hh ((pad xs).length / 64))) := rfl
  clear hpl hpx
  generalize pad xs = PP at *
  go_wp2
  go_loopw [5] (fun aa wx => ∃ n : Nat, 64 * n ≤ PP.length ∧ aa = .int .i64 (64 * (n : Int)) ∧ Hid (wx.heap[S]? = some (.cells (wv (abs PP hh n)).toArray 93 (0, 0))) ∧ Hid (wx.heap[R]? = some (.cells (bv (List.replicate 32 0)).toArray 77 (0, 0))) ∧ Hid (BSl wx (.slice al PP.length cl) PP) ∧ Hid (Below R w wx) ∧ Hid (w2.heap.size ≤ wx.heap.size)) (fun aa _ => PP.length - (intOf aa).toNat)
  case atStart => exact ⟨0, by omega, by simp, HS3, HR3, HP3, HB3, HZ3⟩
  case round =>
    obtain ⟨n, hn, rfl, HS4, HR4, HP4, HB4, HZ4⟩ := hrel
    clear HS3 HR3 HP3 HB3 HZ3
    have HAL := hide (abs_len PP hh rfl n)
    by_cases hlt : 64 * n < PP.length
    · have hlt' : 64 * (n : Int) < (PP.length : Int) := by omega
      have HAB := hide (abs_lt PP hh hh_lt n)
      have HST : Hid (abs PP hh (n + 1) = cmp PP (64 * n) (abs PP hh n)) := rfl
      have HCL := hide (cmp_len PP (64 * n) (abs PP hh n) HAL.out)
      obtain ⟨a0, a1, a2, a3, a4, a5, a6, a7, haa⟩ := eight (abs PP hh n) HAL.out
      have q0 : wr.cell? ⟨S, 0, none⟩ = some (.int .u32 (a0 : Nat)) := blk_cell HS4.out (by rw [haa]; rfl)
      have q1 : wr.cell? ⟨S, 1, none⟩ = some (.int .u32 (a1 : Nat)) := blk_cell HS4.out (by rw [haa]; rfl)
      have q2 : wr.cell? ⟨S, 2, none⟩ = some (.int .u32 (a2 : Nat)) := blk_cell HS4.out (by rw [haa]; rfl)
      have q3 : wr.cell? ⟨S, 3, none⟩ = some (.int .u32 (a3 : Nat)) := blk_cell HS4.out (by rw [haa]; rfl)
      have q4 : wr.cell? ⟨S, 4, none⟩ = some (.int .u32 (a4 : Nat)) := blk_cell HS4.out (by rw [haa]; rfl)
      have q5 : wr.cell? ⟨S, 5, none⟩ = some (.int .u32 (a5 : Nat)) := blk_cell HS4.out (by rw [haa]; rfl)
      have q6 : wr.cell? ⟨S, 6, none⟩ = some (.int .u32 (a6 : Nat)) := blk_cell HS4.out (by rw [haa]; rfl)
      have q7 : wr.cell? ⟨S, 7, none⟩ = some (.int .u32 (a7 : Nat)) := blk_cell HS4.out (by rw [haa]; rfl)
      have HAA := hide haa
      clear haa
      go_wp2_with fail
      have hat : 64 * (n : Int) = ((64 * n : Nat) : Int) := by omega
      rw [hat]
      have hlit : #[Value.int .u32 (a0 : Nat), .int .u32 (a1 : Nat), .int .u32 (a2 : Nat), .int .u32 (a3 : Nat), .int .u32 (a4 : Nat), .int .u32 (a5 : Nat), .int .u32 (a6 : Nat), .int .u32 (a7 : Nat)] = (wv (abs PP hh n)).toArray := by rw [HAA.out]; rfl
      rw [hlit]
      clear hat hlit q0 q1 q2 q3 q4 q5 q6 q7
      refine (refRounds_any _ _ PP (abs PP hh n) (64 * n) HP4.out (by omega) HAL.out HAB.out).mono ?_
      rintro e w5 ⟨rfl, hb5⟩
      have HS5 := hide ((hb5.block S (blk_lt HS4.out)).trans HS4.out)
      have HR5 := hide ((hb5.block R (blk_lt HR4.out)).trans HR4.out)
      have HP5 := hide (HP4.out.move (keep_below hb5))
      have HB5 : Hid (Below R w w5) := HB4.out.trans (hb5.mono (by have := HB4.out.size; have := HRR.out; omega))
      have HZ5 : Hid (w2.heap.size ≤ w5.heap.size) := Nat.le_trans HZ4.out hb5.size
      clear hb5
      rw [← HST.out]
      have HCL' : Hid ((abs PP hh (n + 1)).length = 8) := abs_len PP hh rfl (n + 1)
      have hst : Sem.run Tryz.prog (storeCells ⟨S, 0, none⟩ (wv (abs PP hh (n + 1)))) w5 = .ok () (w5.setRow S (wv (abs PP hh (n + 1))).toArray) := row_store HS5.out (by simp [wv_len, HCL'.out, HAL.out]) (fun u hu => wv_one (abs PP hh (n + 1)) u hu)
      have hsl8 : (wv (abs PP hh (n + 1))).length = 8 := by rw [wv_len, HCL'.out]
      have hpx := HPX.out
      go_wp2
      go_roundw
      case rel =>
        refine ⟨n + 1, by omega, by go_num, row_same HS5.out, (row_other (by omega)).trans HR5.out, (row_kp w5 S _).bsl HP5.out (fun q hq e => ?_), ?_, by have := HZ5.out; show _ ≤ _; simpa [World.setRow] using this⟩
        · have := HPO.out q hq; have := HS2l.out; omega
        · exact HB5.out.trans ((row_kp w5 S _).below (by have := HB5.out.size; have := HRR.out; omega) (fun q e => by omega))
      case measure => simp [intOf]; omega
    · have hnn : n = PP.length / 64 := by omega
      have hlt' : ¬ 64 * (n : Int) < (PP.length : Int) := by omega
      rw [← hnn] at HSH
      clear hnn
      have HAB := hide (abs_lt PP hh hh_lt n)
      have HO5 : Hid ((wr.alloc (.cells #[.int .u8 0, .int .u8 0, .int .u8 0, .int .u8 0, .int .u8 0, .int .u8 0, .int .u8 0, .int .u8 0, .int .u8 0, .int .u8 0, .int .u8 0, .int .u8 0, .int .u8 0, .int .u8 0, .int .u8 0, .int .u8 0, .int .u8 0, .int .u8 0, .int .u8 0, .int .u8 0, .int .u8 0, .int .u8 0, .int .u8 0, .int .u8 0, .int .u8 0, .int .u8 0, .int .u8 0, .int .u8 0, .int .u8 0, .int .u8 0, .int .u8 0, .int .u8 0] 77)).heap[wr.heap.size]? = some (.cells (bv (List.replicate 32 0)).toArray 77 (0, 0))) := by
        rw [← z32_lit]; exact heap_alloc_new wr _
      have HS5 := hide (blk_alloc (.cells #[.int .u8 0, .int .u8 0, .int .u8 0, .int .u8 0, .int .u8 0, .int .u8 0, .int .u8 0, .int .u8 0, .int .u8 0, .int .u8 0, .int .u8 0, .int .u8 0, .int .u8 0, .int .u8 0, .int .u8 0, .int .u8 0, .int .u8 0, .int .u8 0, .int .u8 0, .int .u8 0, .int .u8 0, .int .u8 0, .int .u8 0, .int .u8 0, .int .u8 0, .int .u8 0, .int .u8 0, .int .u8 0, .int .u8 0, .int .u8 0, .int .u8 0, .int .u8 0] 77) HS4.out)
      have HR5 := hide (blk_alloc (.cells #[.int .u8 0, .int .u8 0, .int .u8 0, .int .u8 0, .int .u8 0, .int .u8 0, .int .u8 0, .int .u8 0, .int .u8 0, .int .u8 0, .int .u8 0, .int .u8 0, .int .u8 0, .int .u8 0, .int .u8 0, .int .u8 0, .int .u8 0, .int .u8 0, .int .u8 0, .int .u8 0, .int .u8 0, .int .u8 0, .int .u8 0, .int .u8 0, .int .u8 0, .int .u8 0, .int .u8 0, .int .u8 0, .int .u8 0, .int .u8 0, .int .u8 0, .int .u8 0] 77) HR4.out)
      have HB5 : Hid (Below R w (wr.alloc (.cells #[.int .u8 0, .int .u8 0, .int .u8 0, .int .u8 0, .int .u8 0, .int .u8 0, .int .u8 0, .int .u8 0, .int .u8 0, .int .u8 0, .int .u8 0, .int .u8 0, .int .u8 0, .int .u8 0, .int .u8 0, .int .u8 0, .int .u8 0, .int .u8 0, .int .u8 0, .int .u8 0, .int .u8 0, .int .u8 0, .int .u8 0, .int .u8 0, .int .u8 0, .int .u8 0, .int .u8 0, .int .u8 0, .int .u8 0, .int .u8 0, .int .u8 0, .int .u8 0] 77))) := HB4.out.alloc (by have := HB4.out.size; have := HRR.out; omega) _
      have hSO : S < wr.heap.size := blk_lt HS4.out
      go_wp2
      generalize wr.alloc (.cells #[.int .u8 0, .int .u8 0, .int .u8 0, .int .u8 0, .int .u8 0, .int .u8 0, .int .u8 0, .int .u8 0, .int .u8 0, .int .u8 0, .int .u8 0, .int .u8 0, .int .u8 0, .int .u8 0, .int .u8 0, .int .u8 0, .int .u8 0, .int .u8 0, .int .u8 0, .int .u8 0, .int .u8 0, .int .u8 0, .int .u8 0, .int .u8 0, .int .u8 0, .int .u8 0, .int .u8 0, .int .u8 0, .int .u8 0, .int .u8 0, .int .u8 0, .int .u8 0] 77) = w6 at *
      generalize wr.heap.size = O at *
      have HOL := hide (outb_len (abs PP hh n) HAL.out)
      have HOB := hide (outb_byte (abs PP hh n))
      go_loopw [7] (fun ii wx => ∃ j : Nat, j ≤ 32 ∧ ii = .int .i64 (j : Nat) ∧ Hid (wx.heap[O]? = some (.cells (bv ((outb (abs PP hh n)).take j ++ List.replicate (32 - j) 0)).toArray 77 (0, 0))) ∧ Hid (wx.heap[S]? = some (.cells (wv (abs PP hh n)).toArray 93 (0, 0))) ∧ Hid (wx.heap[R]? = some (.cells (bv (List.replicate 32 0)).toArray 77 (0, 0))) ∧ Hid (Below R w wx)) (fun ii _ => 32 - (intOf ii).toNat)
      case atStart => exact ⟨0, by omega, rfl, HO5, HS5, HR5, HB5⟩
      case round =>
        obtain ⟨j, hj, rfl, HO7, HS7, HR7, HB7⟩ := hrel
        clear HO5 HS5 HR5 HB5 HS4 HR4 HB4 HZ4 HP4
        rename World => wz
        by_cases hj32 : j < 32
        · have hj32' : (j : Int) < 32 := by omega
          have c1 : wz.cell? ⟨S, j / 4, none⟩ = some (.int .u32 (((abs PP hh n).getD (j / 4) 0 : Nat) : Int)) := blk_cell HS7.out (wvt_get (by rw [HAL.out]; omega))
          have hA := getD_w HAB.out (j / 4)
          have HBL : Hid ((bv ((outb (abs PP hh n)).take j ++ List.replicate (32 - j) 0)).length = 32) := by show _ = _; simp [bv, HOL.out]; omega
          have c2 : wz.cell? ⟨O, j, none⟩ = some (.int .u8 ((((outb (abs PP hh n)).take j ++ List.replicate (32 - j) 0).getD j 0 : Nat) : Int)) := blk_cell HO7.out (by rw [List.getElem?_toArray]; exact bv_get (by simpa [bv] using (by rw [HBL.out]; exact hj32 : j < (bv ((outb (abs PP hh n)).take j ++ List.replicate (32 - j) 0)).length)))
          have f2 := blk_frozen j HO7.out
          have HBS := hide (out_set (outb (abs PP hh n)) HOL.out j hj32)
          have HOG := hide (outb_get (abs PP hh n) HAL.out j hj32)
          generalize (abs PP hh n).getD (j / 4) 0 = A at *
          generalize ((outb (abs PP hh n)).take j ++ List.replicate (32 - j) 0).getD j 0 = o at *
          have hOS : ¬ O = S := by omega
          have hOR : ¬ O = R := by omega
          go_wp2
          go_roundw
          case rel =>
            have ea : (A : Int) / 2 ^ (24 - 8 * (j % 4)) % 256 = (((outb (abs PP hh n)).getD j 0 : Nat) : Int) := by
              rw [HOG.out]
              have e : (2 : Int) ^ (24 - 8 * (j % 4)) = ((256 ^ (3 - j % 4) : Nat) : Int) := by
                rw [← pow_int8]
                congr 1
                omega
              rw [e]
              omega
            rw [ea]
            refine ⟨j + 1, by omega, by go_num, ?_, blk_other j _ HS7.out (fun e => hOS e.symm), blk_other j _ HR7.out (fun e => hOR e.symm), below_set3 HB7.out _ _ (by omega) _⟩
            show _ = _
            rw [← HBS.out]
            exact blk_set j _ HO7.out
          case measure => simp [intOf]; omega
        · have hj2 : j = 32 := by omega
          have hj32' : ¬ (j : Int) < 32 := by omega
          have HOF : Hid (wz.heap[O]? = some (.cells (bv (outb (abs PP hh n))).toArray 77 (0, 0))) := by
            have h := HO7.out
            rw [hj2, List.take_of_length_le (by rw [HOL.out]; exact Nat.le_refl _)] at h
            show _ = _
            simpa using h
          clear hj2 HO7
          have HI32 : Hid ((Tryz.prog.info? 77).map (·.size) = some (bv (outb (abs PP hh n))).toArray.size) := by
            have h := info32
            show _ = _
            simpa [bv_len, HOL.out] using h
          have HSZ : Hid ((bv (List.replicate 32 0)).toArray.size = (bv (outb (abs PP hh n))).toArray.size) := by show _ = _; simp [bv_len, HOL.out]
          have HON : Hid ((bv (outb (abs PP hh n))).toArray.all (·.oneCell') = true) := by
            show _ = _
            rw [Array.all_eq_true_iff_forall_mem]
            intro u hu
            exact bv_one _ u (by simpa using hu)
          have hSR : ¬ R = O := by omega
          generalize outb (abs PP hh n) = D at *
          go_wp2_with (first
            | (refine wpList_loadRow rfl rfl O 32 (bv D).toArray 77 rfl HOF.out Tryz.underlying77 HI32.out ?_)
            | (refine wpList_storeRow rfl rfl R _ (bv D).toArray 77 rfl rfl HR7.out HI32.out HSZ.out HON.out ?_))
          refine bodyPost_ret (v := .agg (bv D).toArray) ((results_one (p := 2) (ty := 77) rfl _ _ _).trans (run_loadVar_row (P := Tryz.prog) _ R 77 77 (bv D).toArray (0, 0) _ (row_same HR7.out) Tryz.underlying77 rfl HI32.out)) rfl ⟨by rw [HSH.out], ?_⟩
          rw [HRR.out]
          exact HB7.out.trans ((row_kp wz R _).below (by have := HB7.out.size; have := HRR.out; omega) (fun q e => by omega))
end
section
open Go.RowKit

end
section
open Go.RowKit
def dlay (h : Nat) (d : List Nat) : List Nat × Nat :=
  if h ≠ 18 ∧ h ≠ 0 then ([], 30) else if (h = 18 ∧ d.length ≠ 32) ∨ (h = 0 ∧ 64 < d.length) then ([], 31) else (h :: d.length :: d, 0)
end
section
open Go.RowKit Go
def valB (b : Nat) (l : List Nat) : Nat := l.foldl (fun r d => r * b + d) 0
def digB (b n : Nat) : List Nat := if _h : n = 0 ∨ b < 2 then [] else digB b (n / b) ++ [n % b]
termination_by n
decreasing_by exact Nat.div_lt_self (by omega) (by omega)
def conv (a b : Nat) (l : List Nat) : List Nat := List.replicate (l.takeWhile (· == 0)).length 0 ++ digB b (valB a (l.dropWhile (· == 0)))
end
section
open Go.RowKit
theorem or_low (k a b : Nat) (hb : b < 2 ^ k) (h : 2 ^ k * a + b < 4294967296) (A B : Int) (hA : A = ((2 ^ k * a : Nat) : Int)) (hB : B = (b : Nat)) : bits .or .u32 A B = ((2 ^ k * a + b : Nat) : Int) := by
  subst hA
  subst hB
  rw [u32_or_nat _ _ (by omega) (by omega), ← Nat.two_pow_add_eq_or_of_lt hb]

set_option maxRecDepth 1000000 in
theorem word_any (w : World) (v : Value) (l : List Nat) (hsl : BSl w v l) (hp : l.length = 4) :
    Calls Tryz.prog 121 #[v] w fun e w' => e = .returned (.int .u32 (wrd l 0 : Nat)) ∧ Below w.heap.size w w' := by
  obtain ⟨⟨a, cap, rfl, hn, hc⟩, hmax, hb⟩ := hsl
  rcases hc with hc | ⟨b, off, rfl, hc⟩
  · subst hc; simp at hp
  have c0 : w.cell? ⟨b, off + 0, none⟩ = some (.int .u8 ((l.getD 0 0 : Nat) : Int)) := hc 0 (by omega)
  have c1 : w.cell? ⟨b, off + 1, none⟩ = some (.int .u8 ((l.getD 1 0 : Nat) : Int)) := hc 1 (by omega)
  have c2 : w.cell? ⟨b, off + 2, none⟩ = some (.int .u8 ((l.getD 2 0 : Nat) : Int)) := hc 2 (by omega)
  have c3 : w.cell? ⟨b, off + 3, none⟩ = some (.int .u8 ((l.getD 3 0 : Nat) : Int)) := hc 3 (by omega)
  have h0 := getD_lt hb 0
  have h1 := getD_lt hb 1
  have h2 := getD_lt hb 2
  have h3 := getD_lt hb 3
  have hE : wrd l 0 = ((l.getD 0 0 * 256 + l.getD 1 0) * 256 + l.getD 2 0) * 256 + l.getD 3 0 := rfl
  rw [hE]
  clear hn hc hb hE
  generalize l.getD 0 0 = x0 at *
  generalize l.getD 1 0 = x1 at *
  generalize l.getD 2 0 = x2 at *
  generalize l.getD 3 0 = x3 at *
  rw [Nat.add_zero] at c0
  have f1 : bits .or .u32 ((x0 : Int) * 16777216) ((x1 : Int) * 65536) = ((2 ^ 24 * x0 + x1 * 65536 : Nat) : Int) := or_low 24 x0 (x1 * 65536) (by omega) (by omega) _ _ (by omega) (by omega)
  have f2 : bits .or .u32 ((2 ^ 24 * x0 + x1 * 65536 : Nat) : Int) ((x2 : Int) * 256) = ((2 ^ 16 * (x0 * 256 + x1) + x2 * 256 : Nat) : Int) := or_low 16 (x0 * 256 + x1) (x2 * 256) (by omega) (by omega) _ _ (by omega) (by omega)
  have f3 : bits .or .u32 ((2 ^ 16 * (x0 * 256 + x1) + x2 * 256 : Nat) : Int) (x3 : Int) = ((2 ^ 8 * ((x0 * 256 + x1) * 256 + x2) + x3 : Nat) : Int) := or_low 8 ((x0 * 256 + x1) * 256 + x2) x3 (by omega) (by omega) _ _ (by omega) (by omega)
  have e3 : ((x0 * 256 + x1) * 256 + x2) * 256 + x3 = 2 ^ 8 * ((x0 * 256 + x1) * 256 + x2) + x3 := by omega
  rw [e3]
  have b1 : 2 ^ 24 * x0 + x1 * 65536 < 4294967296 := by omega
  have b2 : 2 ^ 16 * (x0 * 256 + x1) + x2 * 256 < 4294967296 := by omega
  have b3 : 2 ^ 8 * ((x0 * 256 + x1) * 256 + x2) + x3 < 4294967296 := by omega
  clear e3
  generalize 2 ^ 24 * x0 + x1 * 65536 = y1 at *
  generalize 2 ^ 16 * (x0 * 256 + x1) + x2 * 256 = y2 at *
  generalize 2 ^ 8 * ((x0 * 256 + x1) * 256 + x2) + x3 = y3 at *
  go_enter Tryz.func121, Tryz.ntmps121
  go_wp2_with fail
  go_quiet (fail)
  go_wp2_with fail
  go_ret
  exact ⟨rfl, (Kp.drewN (Kp.refl (fun _ => False) _) _).below (Nat.le_refl _) (fun _ h => h.elim)⟩
end
section
open Go.RowKit
theorem rot_or (x n : Nat) (hx : x < 4294967296) (hn : n ≤ 32) (A B : Int) (hA : A = ((x * 2 ^ (32 - n) % 4294967296 : Nat) : Int)) (hB : B = ((x / 2 ^ n : Nat) : Int)) : bits .or .u32 A B = (rt x n : Nat) := by
  subst hA
  subst hB
  have he : 2 ^ n * 2 ^ (32 - n) = 4294967296 := by rw [← Nat.pow_add]; have : n + (32 - n) = 32 := by omega
                                                    rw [this]
  have hp : 0 < 2 ^ n := Nat.pow_pos (by decide)
  have h1 : x / 2 ^ n < 2 ^ (32 - n) := by rw [Nat.div_lt_iff_lt_mul hp, Nat.mul_comm, he]; exact hx
  have h2 : x * 2 ^ (32 - n) % 4294967296 = 2 ^ (32 - n) * (x % 2 ^ n) := by
    rw [← he, Nat.mul_mod_mul_right, Nat.mul_comm]
  have h3 : x * 2 ^ (32 - n) % 4294967296 < 4294967296 := Nat.mod_lt _ (by decide)
  have h4 : x / 2 ^ n < 4294967296 := Nat.lt_of_le_of_lt (Nat.div_le_self _ _) hx
  rw [u32_or_nat _ _ h3 h4, h2, ← Nat.two_pow_add_eq_or_of_lt h1]
  unfold rt
  rw [Nat.add_comm, Nat.mul_comm]

set_option maxRecDepth 1000000 in
theorem rot_any (x n : Nat) (w : World) (hx : x < 4294967296) (hn : n = 2 ∨ n = 6 ∨ n = 7 ∨ n = 11 ∨ n = 13 ∨ n = 17 ∨ n = 18 ∨ n = 19 ∨ n = 22 ∨ n = 25) :
    Calls Tryz.prog 126 #[.int .u32 (x : Nat), .int .i64 (-(n : Int))] w fun e w' => e = .returned (.int .u32 (rt x n : Nat)) ∧ w' = w := by
  rcases hn with rfl | rfl | rfl | rfl | rfl | rfl | rfl | rfl | rfl | rfl
  · have hf : bits .and .u64 (IntKind.u64.wrap (-2)) 31 = 30 := by decide
    have ho : bits .or .u32 ((x : Int) * 1073741824 % 4294967296) ((x : Int) / 4) = (rt x 2 : Nat) := rot_or x 2 hx (by decide) _ _ (by omega) (by omega)
    go_enter Tryz.func126, Tryz.ntmps126
    go_wp2_with fail
    go_ret
    exact ⟨rfl, rfl⟩
  · have hf : bits .and .u64 (IntKind.u64.wrap (-6)) 31 = 26 := by decide
    have ho : bits .or .u32 ((x : Int) * 67108864 % 4294967296) ((x : Int) / 64) = (rt x 6 : Nat) := rot_or x 6 hx (by decide) _ _ (by omega) (by omega)
    go_enter Tryz.func126, Tryz.ntmps126
    go_wp2_with fail
    go_ret
    exact ⟨rfl, rfl⟩
  · have hf : bits .and .u64 (IntKind.u64.wrap (-7)) 31 = 25 := by decide
    have ho : bits .or .u32 ((x : Int) * 33554432 % 4294967296) ((x : Int) / 128) = (rt x 7 : Nat) := rot_or x 7 hx (by decide) _ _ (by omega) (by omega)
    go_enter Tryz.func126, Tryz.ntmps126
    go_wp2_with fail
    go_ret
    exact ⟨rfl, rfl⟩
  · have hf : bits .and .u64 (IntKind.u64.wrap (-11)) 31 = 21 := by decide
    have ho : bits .or .u32 ((x : Int) * 2097152 % 4294967296) ((x : Int) / 2048) = (rt x 11 : Nat) := rot_or x 11 hx (by decide) _ _ (by omega) (by omega)
    go_enter Tryz.func126, Tryz.ntmps126
    go_wp2_with fail
    go_ret
    exact ⟨rfl, rfl⟩
  · have hf : bits .and .u64 (IntKind.u64.wrap (-13)) 31 = 19 := by decide
    have ho : bits .or .u32 ((x : Int) * 524288 % 4294967296) ((x : Int) / 8192) = (rt x 13 : Nat) := rot_or x 13 hx (by decide) _ _ (by omega) (by omega)
    go_enter Tryz.func126, Tryz.ntmps126
    go_wp2_with fail
    go_ret
    exact ⟨rfl, rfl⟩
  · have hf : bits .and .u64 (IntKind.u64.wrap (-17)) 31 = 15 := by decide
    have ho : bits .or .u32 ((x : Int) * 32768 % 4294967296) ((x : Int) / 131072) = (rt x 17 : Nat) := rot_or x 17 hx (by decide) _ _ (by omega) (by omega)
    go_enter Tryz.func126, Tryz.ntmps126
    go_wp2_with fail
    go_ret
    exact ⟨rfl, rfl⟩
  · have hf : bits .and .u64 (IntKind.u64.wrap (-18)) 31 = 14 := by decide
    have ho : bits .or .u32 ((x : Int) * 16384 % 4294967296) ((x : Int) / 262144) = (rt x 18 : Nat) := rot_or x 18 hx (by decide) _ _ (by omega) (by omega)
    go_enter Tryz.func126, Tryz.ntmps126
    go_wp2_with fail
    go_ret
    exact ⟨rfl, rfl⟩
  · have hf : bits .and .u64 (IntKind.u64.wrap (-19)) 31 = 13 := by decide
    have ho : bits .or .u32 ((x : Int) * 8192 % 4294967296) ((x : Int) / 524288) = (rt x 19 : Nat) := rot_or x 19 hx (by decide) _ _ (by omega) (by omega)
    go_enter Tryz.func126, Tryz.ntmps126
    go_wp2_with fail
    go_ret
    exact ⟨rfl, rfl⟩
  · have hf : bits .and .u64 (IntKind.u64.wrap (-22)) 31 = 10 := by decide
    have ho : bits .or .u32 ((x : Int) * 1024 % 4294967296) ((x : Int) / 4194304) = (rt x 22 : Nat) := rot_or x 22 hx (by decide) _ _ (by omega) (by omega)
    go_enter Tryz.func126, Tryz.ntmps126
    go_wp2_with fail
    go_ret
    exact ⟨rfl, rfl⟩
  · have hf : bits .and .u64 (IntKind.u64.wrap (-25)) 31 = 7 := by decide
    have ho : bits .or .u32 ((x : Int) * 128 % 4294967296) ((x : Int) / 33554432) = (rt x 25 : Nat) := rot_or x 25 hx (by decide) _ _ (by omega) (by omega)
    go_enter Tryz.func126, Tryz.ntmps126
    go_wp2_with fail
    go_ret
    exact ⟨rfl, rfl⟩

set_option maxRecDepth 1000000 in
theorem turn_any (x n : Nat) (w : World) (hx : x < 4294967296) (hn : n = 2 ∨ n = 6 ∨ n = 7 ∨ n = 11 ∨ n = 13 ∨ n = 17 ∨ n = 18 ∨ n = 19 ∨ n = 22 ∨ n = 25) :
    Calls Tryz.prog 124 #[.int .u32 (x : Nat), .int .i64 (n : Nat)] w fun e w' => e = .returned (.int .u32 (rt x n : Nat)) ∧ w' = w := by
  have hn' : n < 32 := by omega
  go_enter Tryz.func124, Tryz.ntmps124
  go_wp2_with fail
  refine (rot_any x n w hx hn).mono ?_
  rintro e w' ⟨rfl, rfl⟩
  go_wp2_with fail
  go_ret
  exact ⟨rfl, rfl⟩

set_option maxRecDepth 1000000 in
theorem smallS0_any (x : Nat) (w : World) (hx : x < 4294967296) :
    Calls Tryz.prog 123 #[.int .u32 (x : Nat)] w fun e w' => e = .returned (.int .u32 (ls0 x : Nat)) ∧ w' = w := by
  obtain ⟨A3, A4, e1, e2, _, e4⟩ := ls0_bits x hx
  rw [e4]
  go_enter Tryz.func123, Tryz.ntmps123
  go_wp2_with fail
  refine (turn_any x 7 w hx (by decide)).mono ?_
  rintro e w' ⟨rfl, rfl⟩
  go_wp2_with fail
  refine (turn_any x 18 w' hx (by decide)).mono ?_
  rintro e w' ⟨rfl, rfl⟩
  go_wp2_with fail
  go_ret
  exact ⟨rfl, rfl⟩

set_option maxRecDepth 1000000 in
theorem smallS1_any (x : Nat) (w : World) (hx : x < 4294967296) :
    Calls Tryz.prog 122 #[.int .u32 (x : Nat)] w fun e w' => e = .returned (.int .u32 (ls1 x : Nat)) ∧ w' = w := by
  obtain ⟨A3, A4, e1, e2, _, e4⟩ := ls1_bits x hx
  rw [e4]
  go_enter Tryz.func122, Tryz.ntmps122
  go_wp2_with fail
  refine (turn_any x 17 w hx (by decide)).mono ?_
  rintro e w' ⟨rfl, rfl⟩
  go_wp2_with fail
  refine (turn_any x 19 w' hx (by decide)).mono ?_
  rintro e w' ⟨rfl, rfl⟩
  go_wp2_with fail
  go_ret
  exact ⟨rfl, rfl⟩

set_option maxRecDepth 1000000 in
theorem bigS0_any (x : Nat) (w : World) (hx : x < 4294967296) :
    Calls Tryz.prog 115 #[.int .u32 (x : Nat)] w fun e w' => e = .returned (.int .u32 (us0 x : Nat)) ∧ w' = w := by
  obtain ⟨A3, A4, e1, e2, _, e4⟩ := us0_bits x hx
  rw [e4]
  go_enter Tryz.func115, Tryz.ntmps115
  go_wp2_with fail
  refine (turn_any x 2 w hx (by decide)).mono ?_
  rintro e w' ⟨rfl, rfl⟩
  go_wp2_with fail
  refine (turn_any x 13 w' hx (by decide)).mono ?_
  rintro e w' ⟨rfl, rfl⟩
  go_wp2_with fail
  refine (turn_any x 22 w' hx (by decide)).mono ?_
  rintro e w' ⟨rfl, rfl⟩
  go_wp2_with fail
  go_ret
  exact ⟨rfl, rfl⟩

set_option maxRecDepth 1000000 in
theorem bigS1_any (x : Nat) (w : World) (hx : x < 4294967296) :
    Calls Tryz.prog 114 #[.int .u32 (x : Nat)] w fun e w' => e = .returned (.int .u32 (us1 x : Nat)) ∧ w' = w := by
  obtain ⟨A3, A4, e1, e2, _, e4⟩ := us1_bits x hx
  rw [e4]
  go_enter Tryz.func114, Tryz.ntmps114
  go_wp2_with fail
  refine (turn_any x 6 w hx (by decide)).mono ?_
  rintro e w' ⟨rfl, rfl⟩
  go_wp2_with fail
  refine (turn_any x 11 w' hx (by decide)).mono ?_
  rintro e w' ⟨rfl, rfl⟩
  go_wp2_with fail
  refine (turn_any x 25 w' hx (by decide)).mono ?_
  rintro e w' ⟨rfl, rfl⟩
  go_wp2_with fail
  go_ret
  exact ⟨rfl, rfl⟩
end
section
open Go.RowKit
def digs : Nat → Nat → List Nat
  | 0, _ => []
  | f + 1, n => if n < 128 then [n] else (n % 128 + 128) :: digs f (n / 128)

theorem digs_small {f n : Nat} (h : n < 128) : digs (f + 1) n = [n] := by simp [digs, h]
theorem digs_big {f n : Nat} (h : 128 ≤ n) : digs (f + 1) n = (n % 128 + 128) :: digs f (n / 128) := by
  have : ¬ n < 128 := by omega
  simp [digs, this]
theorem fuel_down {f n : Nat} (h : 128 ≤ n) (hf : n < 128 ^ (f + 1)) : ∃ g, f = g + 1 ∧ n / 128 < 128 ^ (g + 1) := by
  match f, hf with
  | 0, hf => simp at hf; omega
  | g + 1, hf => exact ⟨g, rfl, by rw [Nat.pow_succ] at hf; exact Nat.div_lt_of_lt_mul (by omega)⟩
theorem digs_len : ∀ f n, (digs f n).length ≤ f
  | 0, _ => by simp [digs]
  | f + 1, n => by
    unfold digs; split
    · simp
    · have := digs_len f (n / 128); simp; omega
end
section
open Go.RowKit
def rd : Nat → Nat → List Nat → Nat × Nat × Nat
  | k, _, [] => if k = 9 then (0, 0, 11) else (0, 0, 10)
  | k, m, x :: r => if k = 9 then (0, 0, 11) else if 128 ≤ x then rd (k + 1) (m + x % 128 * 128 ^ k) r else if x = 0 ∧ 0 < k then (0, 0, 12) else (m + x % 128 * 128 ^ k, k + 1, 0)
end
section
open Go.RowKit
def dnum (xs : List Nat) : Nat × Nat × Nat := if (rd 0 0 xs).2.2 = 0 then rd 0 0 xs else (0, 0, if (rd 0 0 xs).2.2 = 10 then 32 else 33)
end
section
open Go.RowKit
def dread (xs : List Nat) : Nat × List Nat × Nat × Nat :=
  if (dnum xs).2.2 ≠ 0 then (0, [], 0, (dnum xs).2.2)
  else if (dnum (xs.drop (dnum xs).2.1)).2.2 ≠ 0 then (0, [], 0, (dnum (xs.drop (dnum xs).2.1)).2.2)
  else if (dnum xs).1 ≠ 18 ∧ (dnum xs).1 ≠ 0 then (0, [], 0, 30)
  else if ((dnum xs).1 = 18 ∧ (dnum (xs.drop (dnum xs).2.1)).1 ≠ 32) ∨ ((dnum xs).1 = 0 ∧ 64 < (dnum (xs.drop (dnum xs).2.1)).1) then (0, [], 0, 31)
  else if xs.length - ((dnum xs).2.1 + (dnum (xs.drop (dnum xs).2.1)).2.1) < (dnum (xs.drop (dnum xs).2.1)).1 then (0, [], 0, 32)
  else ((dnum xs).1, (xs.drop ((dnum xs).2.1 + (dnum (xs.drop (dnum xs).2.1)).2.1)).take (dnum (xs.drop (dnum xs).2.1)).1, (dnum xs).2.1 + (dnum (xs.drop (dnum xs).2.1)).2.1 + (dnum (xs.drop (dnum xs).2.1)).1, 0)

theorem dread_rest {xs : List Nat} {hn u : Nat} (h : dnum xs = (hn, u, 0)) : 
    ((dnum (xs.drop u)).2.2 ≠ 0 → dread xs = (0, [], 0, (dnum (xs.drop u)).2.2)) ∧
    ∀ n m, dnum (xs.drop u) = (n, m, 0) →
      (hn ≠ 18 ∧ hn ≠ 0 → dread xs = (0, [], 0, 30)) ∧ (¬ (hn ≠ 18 ∧ hn ≠ 0) →
      ((hn = 18 ∧ n ≠ 32) ∨ (hn = 0 ∧ 64 < n) → dread xs = (0, [], 0, 31)) ∧ (¬ ((hn = 18 ∧ n ≠ 32) ∨ (hn = 0 ∧ 64 < n)) →
      (xs.length - (u + m) < n → dread xs = (0, [], 0, 32)) ∧ (¬ xs.length - (u + m) < n → dread xs = (hn, (xs.drop (u + m)).take n, u + m + n, 0)))) := by
  have e1 : (dnum xs).1 = hn := by rw [h]
  have e2 : (dnum xs).2.1 = u := by rw [h]
  have e3 : ¬ (dnum xs).2.2 ≠ 0 := by rw [h]; simp
  unfold dread
  rw [if_neg e3, e1, e2]
  refine ⟨fun hb => by rw [if_pos hb], fun n m hq => ?_⟩
  have q1 : (dnum (xs.drop u)).1 = n := by rw [hq]
  have q2 : (dnum (xs.drop u)).2.1 = m := by rw [hq]
  have q3 : ¬ (dnum (xs.drop u)).2.2 ≠ 0 := by rw [hq]; simp
  rw [if_neg q3, q1, q2]
  refine ⟨fun h1 => by rw [if_pos h1], fun h1 => ?_⟩
  rw [if_neg h1]
  refine ⟨fun h2 => by rw [if_pos h2], fun h2 => ?_⟩
  rw [if_neg h2]
  exact ⟨fun h3 => by rw [if_pos h3], fun h3 => by rw [if_neg h3]⟩
theorem BSl.drop {w : World} {b off n cap : Nat} {xs : List Nat} (h : BSl w (.slice (some ⟨b, off, none⟩) n cap) xs) (k : Nat) (hk : k ≤ xs.length) : BSl w (.slice (some ⟨b, off + k, none⟩) (n - k) (cap - k)) (xs.drop k) := by
  obtain ⟨⟨a, cap', hv, hn, hc⟩, hmax, hby⟩ := h
  injection hv with h1 h2 h3
  subst h1
  subst h3
  subst h2
  refine ⟨⟨_, cap - k, by rw [List.length_drop], ⟨by rw [List.length_drop]; omega, fun h => by cases h⟩, ?_⟩, by rw [List.length_drop]; omega, fun z hz => hby z (List.mem_of_mem_drop hz)⟩
  rcases hc with hc | ⟨b', off', e, hc⟩
  · exact .inl (by subst hc; simp)
  · injection e with e
    injection e with e1 e2 e3
    subst e1
    subst e2
    refine .inr ⟨b, off + k, rfl, fun j hj => ?_⟩
    rw [List.length_drop] at hj
    have hq := hc (k + j) (by omega)
    have e : off + (k + j) = off + k + j := by omega
    rw [e] at hq
    rw [hq]
    simp [List.getD]
end
section
open Go.RowKit
theorem wrd_cut (l : List Nat) (p : Nat) : wrd ((l.drop p).take 4) 0 = wrd l p := by
  unfold wrd
  have h : ∀ j, j < 4 → ((l.drop p).take 4).getD j 0 = l.getD (p + j) 0 := by
    intro j hj
    simp [List.getD, hj]
  rw [h 0 (by omega), h (0 + 1) (by omega), h (0 + 2) (by omega), h (0 + 3) (by omega)]
  simp
theorem info64w (l : List Nat) (h : l.length = 64) : (Tryz.prog.info? 131).map (·.size) = some (wv l).toArray.size := by
  have h2 := info64
  simp only [List.size_toArray, wv_len] at h2 ⊢
  rw [h2, h]
  rfl
theorem info8w (l : List Nat) (h : l.length = 8) : (Tryz.prog.info? 93).map (·.size) = some (wv l).toArray.size := by
  have h2 := info8
  simp only [List.size_toArray, wv_len] at h2 ⊢
  rw [h2, h]
  rfl
theorem one_w (l : List Nat) : (wv l).toArray.all (·.oneCell') = true := by
  rw [Array.all_eq_true_iff_forall_mem]
  intro u hu
  exact wv_one _ u (by simpa using hu)
structure WBk (wx : World) (B : Nat) (ws : List Nat) : Prop where
  r : wx.heap[B]? = some (.cells (wv (List.replicate 64 0)).toArray 131 (0, 0))
  w : wx.heap[B + 1]? = some (.cells (wv ws).toArray 131 (0, 0))
theorem WBk.below {w w' : World} {B : Nat} {ws : List Nat} (h : WBk w B ws) (hb : Below w.heap.size w w') : WBk w' B ws :=
  ⟨(hb.block B (blk_lt h.r)).trans h.r, (hb.block _ (blk_lt h.w)).trans h.w⟩
theorem WBk.set {w : World} {B : Nat} {ws : List Nat} (h : WBk w B ws) (j x : Nat) : WBk (w.setCell ⟨B + 1, j, none⟩ (.int .u32 ((x : Nat) : Int))) B (ws.set j x) :=
  ⟨blk_other j _ h.r (by omega), by rw [← wvt_set]; exact blk_set j _ h.w⟩
theorem WBk.drew {w : World} {B : Nat} {ws : List Nat} (h : WBk w B ws) : WBk w.drew B ws := ⟨h.r, h.w⟩

set_option maxRecDepth 1000000 in
set_option maxHeartbeats 4000000 in
theorem words_any (w : World) (v : Value) (l : List Nat) (hsl : BSl w v l) (hp : l.length = 64) :
    Calls Tryz.prog 113 #[v] w fun e w' => e = .returned (.agg (wv (wl l 0 64)).toArray) ∧ Below w.heap.size w w' := by
  have HSL := hide hsl
  obtain ⟨⟨a, cap, rfl, hn, hc⟩, hmax, hb⟩ := hsl
  rcases hc with hc | ⟨b, off, rfl, hc⟩
  · subst hc; simp at hp
  have hcp : (64 : Int) ≤ (cap : Int) := by have := hn.1; omega
  have HLB := hide hb
  rw [hp] at HSL ⊢
  have HP := hide hp
  clear hn hc hb hp hmax
  go_enter Tryz.func113, Tryz.ntmps113
  go_wp2_with fail
  rw [← zero64]
  have HB0 : Hid (WBk ((w.alloc (.cells (wv (List.replicate 64 0)).toArray 131)).alloc (.cells (wv (List.replicate 64 0)).toArray 131)) w.heap.size (List.replicate 64 0)) := by
    refine ⟨blk_alloc _ (heap_alloc_new w _), ?_⟩
    have h := heap_alloc_new (w.alloc (.cells (wv (List.replicate 64 0)).toArray 131)) (.cells (wv (List.replicate 64 0)).toArray 131)
    have e : (w.alloc (.cells (wv (List.replicate 64 0)).toArray 131)).heap.size = w.heap.size + 1 := by simp
    rw [e] at h
    exact h
  have HL0 : Hid (Below w.heap.size w ((w.alloc (.cells (wv (List.replicate 64 0)).toArray 131)).alloc (.cells (wv (List.replicate 64 0)).toArray 131))) := ((Below.refl _ _).alloc (Nat.le_refl _) _).alloc (by simp) _
  generalize (w.alloc (.cells (wv (List.replicate 64 0)).toArray 131)).alloc (.cells (wv (List.replicate 64 0)).toArray 131) = w1 at *
  generalize hB : w.heap.size = B at *
  have HBB := hide hB
  clear hB
  go_loopw [6] (fun ii wx => ∃ i : Nat, i ≤ 16 ∧ ii = .int .i64 (i : Nat) ∧ Hid (WBk wx B (wl l 0 i ++ List.replicate (64 - i) 0)) ∧ Hid (Below B w wx)) (fun ii _ => 16 - (intOf ii).toNat)
  case atStart => exact ⟨0, by omega, rfl, HB0, HL0⟩
  case round =>
    obtain ⟨i, hi, rfl, HR1, HL1⟩ := hrel
    clear HB0 HL0
    by_cases hlt : i < 16
    · have hlt' : (i : Int) < 16 := by omega
      have HV : Hid (BSl wr (.slice (some ⟨b, off, none⟩) 64 cap) l) := HSL.out.move (keep_below (by rw [HBB.out]; exact HL1.out))
      have HST := hide (wl_set l 0 i (by omega))
      rw [if_pos hlt] at HST
      have HLN := hide (wl_wlen l 0 i (by omega))
      go_wp2_with fail
      refine (word_any _ _ ((l.drop (4 * i)).take 4) ((HV.out.drop (4 * i) (by rw [HP.out]; omega)).take3 4 (by rw [List.length_drop, HP.out]; omega)) (by rw [List.length_take, List.length_drop, HP.out]; omega)).mono ?_
      rintro e w5 ⟨rfl, hb5⟩
      rw [wrd_cut]
      have HR2 := hide (HR1.out.below hb5)
      have HL2 : Hid (Below B w w5) := HL1.out.trans (hb5.mono (by have := HL1.out.size; have := HBB.out; omega))
      clear HR1 HL1 hb5
      have f0 := blk_frozen i HR2.out.w
      have c0 : w5.cell? ⟨B + 1, i, none⟩ = some (.int .u32 (((wl l 0 i ++ List.replicate (64 - i) 0).getD i 0 : Nat) : Int)) := blk_cell HR2.out.w (wvt_get (by rw [HLN.out]; omega))
      generalize (wl l 0 i ++ List.replicate (64 - i) 0).getD i 0 = o at *
      go_wp2_with fail
      go_roundw
      case rel => exact ⟨i + 1, by omega, by go_num, by rw [← HST.out, Nat.zero_add]; exact HR2.out.set i _, below_set3 HL2.out _ _ (by omega) _⟩
      case measure => simp [intOf]; omega
    · have hi16 : i = 16 := by omega
      have HI := hide hi16
      have hi6 : ¬ (i : Int) < 16 := by omega
      clear hi16 hlt hi
      go_wp2_with fail
      rename World => wq
      go_loopw [5] (fun ii wx => ∃ i : Nat, i ≤ 64 ∧ 16 ≤ i ∧ ii = .int .i64 (i : Nat) ∧ Hid (WBk wx B (wl l 0 i ++ List.replicate (64 - i) 0)) ∧ Hid (Below B w wx)) (fun ii _ => 64 - (intOf ii).toNat)
      case atStart => exact ⟨16, by omega, by omega, rfl, by rw [← HI.out]; exact HR1, HL1⟩
      case round =>
        rename World => wz
        obtain ⟨k, hk, hk16, rfl, HR2, HL2⟩ := hrel
        clear HR1 HL1
        by_cases hlt : k < 64
        · have hlt' : (k : Int) < 64 := by omega
          have HST := hide (wl_set l 0 k hlt)
          rw [if_neg (by omega)] at HST
          have HLN := hide (wl_wlen l 0 k (by omega))
          have HG : Hid (∀ j, j < k → wz.cell? ⟨B + 1, j, none⟩ = some (.int .u32 (((wl l 0 k).getD j 0 : Nat) : Int))) := fun j hj => blk_cell HR2.out.w (by rw [wvt_get (by rw [HLN.out]; omega), wl_at l 0 k j hj])
          have f0 := blk_frozen k HR2.out.w
          have c15 := HG.out (k - 15) (by omega)
          have c2 := HG.out (k - 2) (by omega)
          have c7 := HG.out (k - 7) (by omega)
          have c16 := HG.out (k - 16) (by omega)
          have c0 : wz.cell? ⟨B + 1, k, none⟩ = some (.int .u32 (((wl l 0 k ++ List.replicate (64 - k) 0).getD k 0 : Nat) : Int)) := blk_cell HR2.out.w (wvt_get (by rw [HLN.out]; exact hlt))
          have hx := getD_w (wl_lt l 0 HLB.out k) (k - 15)
          have hy := getD_w (wl_lt l 0 HLB.out k) (k - 2)
          have h7 := getD_w (wl_lt l 0 HLB.out k) (k - 7)
          have h6 := getD_w (wl_lt l 0 HLB.out k) (k - 16)
          have HNX : Hid (nextW (wl l 0 k) k = (ls1 ((wl l 0 k).getD (k - 2) 0) + (wl l 0 k).getD (k - 7) 0 + ls0 ((wl l 0 k).getD (k - 15) 0) + (wl l 0 k).getD (k - 16) 0) % 4294967296) := rfl
          generalize (wl l 0 k ++ List.replicate (64 - k) 0).getD k 0 = o at *
          generalize (wl l 0 k).getD (k - 15) 0 = x at *
          generalize (wl l 0 k).getD (k - 2) 0 = y at *
          generalize (wl l 0 k).getD (k - 7) 0 = x7 at *
          generalize (wl l 0 k).getD (k - 16) 0 = x6 at *
          have hA := ls1_lt hy
          have hC := ls0_lt hx
          have HXX := hide hx
          have HYY := hide hy
          go_wp2_with fail
          have n7 : (7 : Int) ≤ (k : Int) := by omega
          have m7 : (k : Int) - 7 < 64 := by omega
          have t7 : ((k : Int) - 7).toNat = k - 7 := by omega
          have n6 : (16 : Int) ≤ (k : Int) := by omega
          have m6 : (k : Int) - 16 < 64 := by omega
          have t6 : ((k : Int) - 16).toNat = k - 16 := by omega
          have n2 : (2 : Int) ≤ (k : Int) := by omega
          have m2 : (k : Int) - 2 < 64 := by omega
          have t2 : ((k : Int) - 2).toNat = k - 2 := by omega
          have n5 : (15 : Int) ≤ (k : Int) := by omega
          have m5 : (k : Int) - 15 < 64 := by omega
          have t5 : ((k : Int) - 15).toNat = k - 15 := by omega
          have y7 : IntKind.i64.wrap ((k : Int) - 7) = (k : Int) - 7 := by rw [IntKind.wrap_i64]; omega
          have y6 : IntKind.i64.wrap ((k : Int) - 16) = (k : Int) - 16 := by rw [IntKind.wrap_i64]; omega
          have y2 : IntKind.i64.wrap ((k : Int) - 2) = (k : Int) - 2 := by rw [IntKind.wrap_i64]; omega
          have y5 : IntKind.i64.wrap ((k : Int) - 15) = (k : Int) - 15 := by rw [IntKind.wrap_i64]; omega
          refine wp_region_still_tail 22 (by kernel_rfl) (by kernel_rfl) ?_
          simp only [List.take_succ_cons, List.take_zero, List.drop_succ_cons, List.drop_zero]
          repeat (
            refine wpStill_step (fun K hK => ?_)
            go_simp
            first
              | (refine hK _ ?_; clear hK K)
              | (refine ⟨_, smallS0_any _ _ (by assumption), hK _ ?_⟩; clear hK K)
              | (refine ⟨_, smallS1_any _ _ (by assumption), hK _ ?_⟩; clear hK K))
          refine wpStill_nil ?_
          go_wp2_with fail
          go_roundw
          case rel =>
            have ev : (((ls1 y : Nat) : Int) + (x7 : Int) + ((ls0 x : Nat) : Int) + (x6 : Int)) % 4294967296 = ((nextW (wl l 0 k) k : Nat) : Int) := by rw [HNX.out]; omega
            rw [ev]
            exact ⟨k + 1, by omega, by omega, by go_num, by rw [← HST.out]; exact (HR2.out.set k _).drew, Below.drew (below_set3 HL2.out _ _ (by omega) _)⟩
          case measure => simp [intOf]; omega
        · have hk64 : k = 64 := by omega
          have HK := hide hk64
          have hk6 : ¬ (k : Int) < 64 := by omega
          clear hk64 hlt hk hk16
          have HW : Hid (wz.heap[B + 1]? = some (.cells (wv (wl l 0 64)).toArray 131 (0, 0))) := by
            have h := HR2.out.w
            rw [HK.out] at h
            show _ = _
            simpa using h
          have HI64 := hide (info64w (wl l 0 64) (wl_len l 0 64))
          have HSZ : Hid ((wv (List.replicate 64 0)).toArray.size = (wv (wl l 0 64)).toArray.size) := by show _ = _; simp [wv_len, wl_len]
          have HON := hide (one_w (wl l 0 64))
          have HR := hide HR2.out.r
          have hne : ¬ B = B + 1 := by omega
          clear HR2
          generalize hD : wl l 0 64 = D at *
          have HD := hide hD
          clear hD
          go_wp2_with (first
            | (refine wpList_loadRow rfl rfl (B + 1) 64 (wv D).toArray 131 rfl HW.out Tryz.underlying131 HI64.out ?_)
            | (refine wpList_storeRow rfl rfl B _ (wv D).toArray 131 rfl rfl HR.out HI64.out HSZ.out HON.out ?_))
          refine bodyPost_ret (v := .agg (wv D).toArray) ((results_one (p := 2) (ty := 131) rfl _ _ _).trans (run_loadVar_row (P := Tryz.prog) _ B 131 131 (wv D).toArray (0, 0) _ (row_same HR.out) Tryz.underlying131 rfl HI64.out)) rfl ⟨by rw [HD.out], ?_⟩
          rw [HBB.out]
          exact HL2.out.trans ((row_kp wz B _).below (by have := HL2.out.size; have := HBB.out; omega) (fun q e => by omega))
end
section
open Go.RowKit
structure Cb (w : World) : Prop where
  c : ∀ i, i < 64 → w.cell? ⟨1, i, none⟩ = some (.int .u32 ((kk.getD i 0 : Nat) : Int))
theorem Cb.move {w w' : World} (h : Cb w) (hm : ∀ a u, w.cell? a = some u → w'.cell? a = some u) : Cb w' := ⟨fun i hi => hm _ _ (h.c i hi)⟩
theorem Cb.below {w w' : World} (h : Cb w) (hb : Below w.heap.size w w') : Cb w' := h.move (keep_below hb)
theorem Cb.kp {S : Nat → Prop} {w w' : World} (h : Cb w) (hk : Kp S w w') (hs : ¬ S 1) : Cb w' := ⟨fun i hi => hk.cell (h.c i hi) hs⟩
theorem Cb.pos {w : World} (h : Cb w) : 1 < w.heap.size := by
  have h0 := h.c 0 (by decide)
  by_cases hz : w.heap.size ≤ 1
  · exfalso
    have e : w.heap[1]? = none := Array.getElem?_eq_none (by omega)
    simp [World.cell?, e] at h0
  · omega

structure FB (wx : World) (B N : Nat) (s ws : List Nat) : Prop where
  s : wx.heap[B]? = some (.cells (wv s).toArray 93 (0, 0))
  r : wx.heap[B + 1]? = some (.cells (wv (List.replicate 8 0)).toArray 93 (0, 0))
  w : wx.heap[N]? = some (.cells (wv ws).toArray 131 (0, 0))
  c : Cb wx
theorem FB.drewN {wx : World} {B N : Nat} {s ws : List Nat} (h : FB wx B N s ws) (n : Nat) : FB (wx.drewN n) B N s ws := ⟨h.s, h.r, h.w, ⟨h.c.c⟩⟩

set_option maxRecDepth 1000000 in
set_option maxHeartbeats 1000000 in
theorem changed_any (w : World) (v : Value) (l s : List Nat) (hcb : Cb w) (hsl : BSl w v l) (hp : l.length = 64) (hs : s.length = 8) (hw : ∀ x ∈ s, x < 4294967296) :
    Calls Tryz.prog 80 #[.agg (wv s).toArray, v] w fun e w' => e = .returned (.agg (wv (cmp l 0 s)).toArray) ∧ Below w.heap.size w w' := by
  have HSL := hide hsl
  have HW := hide hw
  have HCB := hide hcb
  have HP := hide hp
  clear hsl hw hcb hp
  have HS : Hid (s.length = 8) := hs
  match s, hs with
  | [s0, s1, s2, s3, s4, s5, s6, s7], _ =>
  have hlit : (wv [s0, s1, s2, s3, s4, s5, s6, s7]).toArray = #[.int .u32 (s0 : Nat), .int .u32 (s1 : Nat), .int .u32 (s2 : Nat), .int .u32 (s3 : Nat), .int .u32 (s4 : Nat), .int .u32 (s5 : Nat), .int .u32 (s6 : Nat), .int .u32 (s7 : Nat)] := rfl
  have hzer : (wv (List.replicate 8 0)).toArray = #[.int .u32 0, .int .u32 0, .int .u32 0, .int .u32 0, .int .u32 0, .int .u32 0, .int .u32 0, .int .u32 0] := rfl
  rw [hlit]
  go_enter Tryz.func80, Tryz.ntmps80
  go_wp2_with fail
  rw [← hlit, ← hzer]
  have HS1 : Hid (((w.alloc (.cells (wv [s0, s1, s2, s3, s4, s5, s6, s7]).toArray 93)).alloc (.cells (wv (List.replicate 8 0)).toArray 93)).heap[w.heap.size]? = some (.cells (wv [s0, s1, s2, s3, s4, s5, s6, s7]).toArray 93 (0, 0))) := blk_alloc _ (heap_alloc_new w _)
  have HR1 : Hid (((w.alloc (.cells (wv [s0, s1, s2, s3, s4, s5, s6, s7]).toArray 93)).alloc (.cells (wv (List.replicate 8 0)).toArray 93)).heap[w.heap.size + 1]? = some (.cells (wv (List.replicate 8 0)).toArray 93 (0, 0))) := by
    have h := heap_alloc_new (w.alloc (.cells (wv [s0, s1, s2, s3, s4, s5, s6, s7]).toArray 93)) (.cells (wv (List.replicate 8 0)).toArray 93)
    have e : (w.alloc (.cells (wv [s0, s1, s2, s3, s4, s5, s6, s7]).toArray 93)).heap.size = w.heap.size + 1 := by simp
    rw [e] at h
    exact h
  have HL1 : Hid (Below w.heap.size w ((w.alloc (.cells (wv [s0, s1, s2, s3, s4, s5, s6, s7]).toArray 93)).alloc (.cells (wv (List.replicate 8 0)).toArray 93))) := ((Below.refl _ _).alloc (Nat.le_refl _) _).alloc (by simp) _
  clear hlit hzer
  generalize (w.alloc (.cells (wv [s0, s1, s2, s3, s4, s5, s6, s7]).toArray 93)).alloc (.cells (wv (List.replicate 8 0)).toArray 93) = w1 at *
  generalize hB : w.heap.size = B at *
  have HBB := hide hB
  clear hB
  refine (words_any w1 v l (HSL.out.move (keep_below (by rw [HBB.out]; exact HL1.out))) HP.out).mono ?_
  rintro e w2 ⟨rfl, hb2⟩
  have HS2 := hide ((hb2.block B (blk_lt HS1.out)).trans HS1.out)
  have HR2 := hide ((hb2.block (B + 1) (blk_lt HR1.out)).trans HR1.out)
  have HL2 : Hid (Below B w w2) := HL1.out.trans (hb2.mono (by have := HL1.out.size; have := HBB.out; omega))
  clear hb2 HS1 HR1 HL1
  have HI64 := hide (info64w (wl l 0 64) (wl_len l 0 64))
  have HON := hide (one_w (wl l 0 64))
  have HWL := hide (wl_len l 0 64)
  have HWB := hide (wl_lt l 0 HSL.out.byte 64)
  have HSZ : Hid ((wv (List.replicate 64 0)).toArray.size = (wv (wl l 0 64)).toArray.size) := by show _ = _; simp [wv_len, wl_len]
  have HFB : Hid (FB ((w2.alloc (.cells (wv (List.replicate 64 0)).toArray 131)).setRow w2.heap.size (wv (wl l 0 64)).toArray) B w2.heap.size [s0, s1, s2, s3, s4, s5, s6, s7] (wl l 0 64)) := by
    have k0 := blk_lt HS2.out
    have k1 := blk_lt HR2.out
    have hlt := HCB.out.pos
    have hb : Below w2.heap.size w2 ((w2.alloc (.cells (wv (List.replicate 64 0)).toArray 131)).setRow w2.heap.size (wv (wl l 0 64)).toArray) := ((Below.refl _ _).alloc (Nat.le_refl _) _).trans ((row_kp _ _ _).below (by simp) (fun q e => by omega))
    exact ⟨by rw [row_other (by omega)]; exact blk_alloc _ HS2.out, by rw [row_other (by omega)]; exact blk_alloc _ HR2.out, row_same (heap_alloc_new w2 _), (HCB.out.below (by rw [HBB.out]; exact HL2.out)).below hb⟩
  have HL3 : Hid (Below B w ((w2.alloc (.cells (wv (List.replicate 64 0)).toArray 131)).setRow w2.heap.size (wv (wl l 0 64)).toArray)) := by
    have h2 := HL2.out.size
    have hB := HBB.out
    exact (HL2.out.alloc (by omega) _).trans ((row_kp _ _ _).below (by simp; omega) (fun q e => by omega))
  have HNB : Hid (B + 1 < w2.heap.size) := blk_lt HR2.out
  have HCM : Hid (cmp l 0 [s0, s1, s2, s3, s4, s5, s6, s7] = List.zipWith (fun x y => (x + y) % 4294967296) [s0, s1, s2, s3, s4, s5, s6, s7] (rl l 0 [s0, s1, s2, s3, s4, s5, s6, s7] 64)) := rfl
  have HWE : Hid (∀ i, i < 64 → (wl l 0 (i + 1)).getD i 0 = (wl l 0 64).getD i 0) := fun i hi => (wl_get l 0 (i + 1) 64 i (by omega) (by omega)).symm
  generalize wl l 0 64 = W at *
  go_wp2_with (refine wpList_storeRow rfl rfl w2.heap.size _ (wv W).toArray 131 rfl rfl (heap_alloc_new w2 _) HI64.out (by rw [← HSZ.out, zero64]) HON.out ?_; rw [← zero64]; generalize (w2.alloc (.cells (wv (List.replicate 64 0)).toArray 131)).setRow w2.heap.size (wv W).toArray = w3 at *; generalize w2.heap.size = N at *; have q0 : w3.cell? ⟨B, 0, none⟩ = some (.int .u32 (s0 : Nat)) := blk_cell HFB.out.s rfl; have q1 : w3.cell? ⟨B, 1, none⟩ = some (.int .u32 (s1 : Nat)) := blk_cell HFB.out.s rfl; have q2 : w3.cell? ⟨B, 2, none⟩ = some (.int .u32 (s2 : Nat)) := blk_cell HFB.out.s rfl; have q3 : w3.cell? ⟨B, 3, none⟩ = some (.int .u32 (s3 : Nat)) := blk_cell HFB.out.s rfl; have q4 : w3.cell? ⟨B, 4, none⟩ = some (.int .u32 (s4 : Nat)) := blk_cell HFB.out.s rfl; have q5 : w3.cell? ⟨B, 5, none⟩ = some (.int .u32 (s5 : Nat)) := blk_cell HFB.out.s rfl; have q6 : w3.cell? ⟨B, 6, none⟩ = some (.int .u32 (s6 : Nat)) := blk_cell HFB.out.s rfl; have q7 : w3.cell? ⟨B, 7, none⟩ = some (.int .u32 (s7 : Nat)) := blk_cell HFB.out.s rfl)
  go_simp
  go_quiet (fail)
  have HF4 := hide (HFB.out.drewN nq)
  have HL4 : Hid (Below B w (w3.drewN nq)) := below_drewN HL3.out _
  clear q0 q1 q2 q3 q4 q5 q6 q7 HFB HL3 HS2 HR2 HL2 HI64 HON HSZ
  generalize w3.drewN nq = w4 at *
  have q4 : w4.cell? ⟨B, 4, none⟩ = some (.int .u32 (s4 : Nat)) := blk_cell HF4.out.s rfl
  have q5 : w4.cell? ⟨B, 5, none⟩ = some (.int .u32 (s5 : Nat)) := blk_cell HF4.out.s rfl
  have q6 : w4.cell? ⟨B, 6, none⟩ = some (.int .u32 (s6 : Nat)) := blk_cell HF4.out.s rfl
  have q7 : w4.cell? ⟨B, 7, none⟩ = some (.int .u32 (s7 : Nat)) := blk_cell HF4.out.s rfl
  go_wp2_with fail
  go_quiet (fail)
  have HF5 := hide (HF4.out.drewN nq)
  have HL5 : Hid (Below B w (w4.drewN nq)) := below_drewN HL4.out _
  clear q4 q5 q6 q7 HF4 HL4
  generalize w4.drewN nq = w5 at *
  go_wp2_with fail
  have HRL0 : Hid (rl l 0 [s0, s1, s2, s3, s4, s5, s6, s7] 0 = [s0, s1, s2, s3, s4, s5, s6, s7]) := rfl
  have HRS : Hid (∀ n, rl l 0 [s0, s1, s2, s3, s4, s5, s6, s7] (n + 1) = rnd (rl l 0 [s0, s1, s2, s3, s4, s5, s6, s7] n) (kk.getD n 0) ((wl l 0 (n + 1)).getD n 0)) := fun _ => rfl
  have HRB : Hid (∀ n, ∀ x ∈ rl l 0 [s0, s1, s2, s3, s4, s5, s6, s7] n, x < 4294967296) := rl_lt l 0 _ HW.out
  have HRN : Hid (∀ n, (rl l 0 [s0, s1, s2, s3, s4, s5, s6, s7] n).length = 8) := rl_len l 0 _ rfl
  generalize hR : rl l 0 [s0, s1, s2, s3, s4, s5, s6, s7] = R at *
  clear hR
  go_loopw [6, 7, 8, 9, 10, 11, 12, 13, 35] (fun xa xb xc xd xe xf xg xh ii wx => ∃ i : Nat, i ≤ 64 ∧ ii = .int .i64 (i : Nat) ∧ xa = .int .u32 (((R i).getD 0 0 : Nat) : Int) ∧ xb = .int .u32 (((R i).getD 1 0 : Nat) : Int) ∧ xc = .int .u32 (((R i).getD 2 0 : Nat) : Int) ∧ xd = .int .u32 (((R i).getD 3 0 : Nat) : Int) ∧ xe = .int .u32 (((R i).getD 4 0 : Nat) : Int) ∧ xf = .int .u32 (((R i).getD 5 0 : Nat) : Int) ∧ xg = .int .u32 (((R i).getD 6 0 : Nat) : Int) ∧ xh = .int .u32 (((R i).getD 7 0 : Nat) : Int) ∧ Hid (FB wx B N [s0, s1, s2, s3, s4, s5, s6, s7] W) ∧ Hid (Below B w wx)) (fun _ _ _ _ _ _ _ _ ii _ => 64 - (intOf ii).toNat)
  case atStart => exact ⟨0, by omega, rfl, by rw [HRL0.out]; rfl, by rw [HRL0.out]; rfl, by rw [HRL0.out]; rfl, by rw [HRL0.out]; rfl, by rw [HRL0.out]; rfl, by rw [HRL0.out]; rfl, by rw [HRL0.out]; rfl, by rw [HRL0.out]; rfl, HF5, HL5⟩
  case round =>
    obtain ⟨i, hi, rfl, rfl, rfl, rfl, rfl, rfl, rfl, rfl, rfl, HF6, HL6⟩ := hrel
    clear HF5 HL5
    by_cases hlt : i < 64
    · have hlt' : (i : Int) < 64 := by omega
      have hkc := HF6.out.c.c i hlt
      have hwc : wr.cell? ⟨N, i, none⟩ = some (.int .u32 ((W.getD i 0 : Nat) : Int)) := blk_cell HF6.out.w (wvt_get (by rw [HWL.out]; exact hlt))
      have hwb := getD_w HWB.out i
      have hkb : kk.getD i 0 < 4294967296 := getD_w kk_lt i
      have HRX : Hid (R (i + 1) = rnd (R i) (kk.getD i 0) (W.getD i 0)) := by rw [← HWE.out i hlt]; exact HRS.out i
      generalize W.getD i 0 = wi at *
      generalize kk.getD i 0 = ki at *
      have hb0 := getD_w (HRB.out i) 0
      have hb1 := getD_w (HRB.out i) 1
      have hb2 := getD_w (HRB.out i) 2
      have hb3 := getD_w (HRB.out i) 3
      have hb4 := getD_w (HRB.out i) 4
      have hb5 := getD_w (HRB.out i) 5
      have hb6 := getD_w (HRB.out i) 6
      have hb7 := getD_w (HRB.out i) 7
      have HRT : Hid (rT (R i) ki wi = ((R i).getD 7 0 + us1 ((R i).getD 4 0) + cho ((R i).getD 4 0) ((R i).getD 5 0) ((R i).getD 6 0) + ki + wi) % 4294967296) := rfl
      have HRU : Hid (rU (R i) = (us0 ((R i).getD 0 0) + maj ((R i).getD 0 0) ((R i).getD 1 0) ((R i).getD 2 0)) % 4294967296) := rfl
      have HTL : Hid (rT (R i) ki wi < 4294967296) := Nat.mod_lt _ (by decide)
      have HUL : Hid (rU (R i) < 4294967296) := Nat.mod_lt _ (by decide)
      have HRN : Hid (R (i + 1) = [(rT (R i) ki wi + rU (R i)) % 4294967296, (R i).getD 0 0, (R i).getD 1 0, (R i).getD 2 0, ((R i).getD 3 0 + rT (R i) ki wi) % 4294967296, (R i).getD 4 0, (R i).getD 5 0, (R i).getD 6 0]) := HRX.out
      clear HRX
      generalize rT (R i) ki wi = T at *
      generalize rU (R i) = U at *
      generalize (R i).getD 0 0 = va at *
      generalize (R i).getD 1 0 = vb at *
      generalize (R i).getD 2 0 = vc at *
      generalize (R i).getD 3 0 = vd at *
      generalize (R i).getD 4 0 = ve at *
      generalize (R i).getD 5 0 = vf at *
      generalize (R i).getD 6 0 = vg at *
      generalize (R i).getD 7 0 = vh at *
      have hA4 := us1_lt hb4
      have hC4 := us0_lt hb0
      obtain ⟨M1, M2, M3, M4, M5, k1, k2, k3, k4, k5, hM5, k6⟩ := maj_bits va vb vc hb0 hb1 hb2
      obtain ⟨H0, H1, H2, H3, l0, l1, l2, l3, hH3, l4⟩ := cho_bits ve vf vg hb4 hb5 hb6
      rw [l4] at HRT
      rw [k6] at HRU
      clear k6 l4
      go_wp2_with fail
      go_quiet ((go_at_call 114; exact Calls.quiet_of_same (bigS1_any _ _ (by assumption))))
      have eT : (((vh : Int) + ((us1 ve : Nat) : Int) + (H3 : Int) + (ki : Int)) % 4294967296 + (wi : Int)) % 4294967296 = (T : Int) := by rw [HRT.out]; omega
      have HF7 := hide (HF6.out.drewN nq)
      have HL7 : Hid (Below B w (wr.drewN nq)) := below_drewN HL6.out _
      clear hkc hwc HF6 HL6
      generalize wr.drewN nq = w7 at *
      rw [eT]
      clear eT
      have hTL := HTL.out
      go_wp2_with fail
      refine (bigS0_any va w7 hb0).mono ?_
      rintro e w8 ⟨rfl, rfl⟩
      have eU : (((us0 va : Nat) : Int) + (M5 : Int)) % 4294967296 = (U : Int) := by rw [HRU.out]; omega
      have hUL := HUL.out
      go_wp2_with fail
      go_roundw
      case rel =>
        refine ⟨i + 1, by omega, by go_num, ?_, ?_, ?_, ?_, ?_, ?_, ?_, ?_, HF7, HL7⟩ <;> rw [HRN.out] <;> simp only [List.getD_cons_zero, List.getD_cons_succ]
        · exact congrArg (Value.int .u32) (by omega)
        · exact congrArg (Value.int .u32) (by omega)
      case measure => simp [intOf]; omega
    · have hi64 : i = 64 := by omega
      have hi6 : ¬ (i : Int) < 64 := by omega
      rw [← hi64] at HCM
      obtain ⟨r0, r1, r2, r3, r4, r5, r6, r7, hr⟩ := eight (R i) (HRN.out i)
      have HRR := hide hr
      rw [hr] at HCM ⊢
      clear hi64 hlt hi hr
      have HC2 : Hid (cmp l 0 [s0, s1, s2, s3, s4, s5, s6, s7] = [(s0 + r0) % 4294967296, (s1 + r1) % 4294967296, (s2 + r2) % 4294967296, (s3 + r3) % 4294967296, (s4 + r4) % 4294967296, (s5 + r5) % 4294967296, (s6 + r6) % 4294967296, (s7 + r7) % 4294967296]) := HCM.out
      clear HCM
      have e0 : ((s0 : Int) + (r0 : Int)) % 4294967296 = (((s0 + r0) % 4294967296 : Nat) : Int) := by omega
      have q0 : wr.cell? ⟨B, 0, none⟩ = some (.int .u32 (s0 : Nat)) := blk_cell HF6.out.s rfl
      generalize (s0 + r0) % 4294967296 = c0 at *
      have e1 : ((s1 : Int) + (r1 : Int)) % 4294967296 = (((s1 + r1) % 4294967296 : Nat) : Int) := by omega
      have q1 : wr.cell? ⟨B, 1, none⟩ = some (.int .u32 (s1 : Nat)) := blk_cell HF6.out.s rfl
      generalize (s1 + r1) % 4294967296 = c1 at *
      have e2 : ((s2 : Int) + (r2 : Int)) % 4294967296 = (((s2 + r2) % 4294967296 : Nat) : Int) := by omega
      have q2 : wr.cell? ⟨B, 2, none⟩ = some (.int .u32 (s2 : Nat)) := blk_cell HF6.out.s rfl
      generalize (s2 + r2) % 4294967296 = c2 at *
      have e3 : ((s3 : Int) + (r3 : Int)) % 4294967296 = (((s3 + r3) % 4294967296 : Nat) : Int) := by omega
      have q3 : wr.cell? ⟨B, 3, none⟩ = some (.int .u32 (s3 : Nat)) := blk_cell HF6.out.s rfl
      generalize (s3 + r3) % 4294967296 = c3 at *
      have e4 : ((s4 : Int) + (r4 : Int)) % 4294967296 = (((s4 + r4) % 4294967296 : Nat) : Int) := by omega
      have q4 : wr.cell? ⟨B, 4, none⟩ = some (.int .u32 (s4 : Nat)) := blk_cell HF6.out.s rfl
      generalize (s4 + r4) % 4294967296 = c4 at *
      have e5 : ((s5 : Int) + (r5 : Int)) % 4294967296 = (((s5 + r5) % 4294967296 : Nat) : Int) := by omega
      have q5 : wr.cell? ⟨B, 5, none⟩ = some (.int .u32 (s5 : Nat)) := blk_cell HF6.out.s rfl
      generalize (s5 + r5) % 4294967296 = c5 at *
      have e6 : ((s6 : Int) + (r6 : Int)) % 4294967296 = (((s6 + r6) % 4294967296 : Nat) : Int) := by omega
      have q6 : wr.cell? ⟨B, 6, none⟩ = some (.int .u32 (s6 : Nat)) := blk_cell HF6.out.s rfl
      generalize (s6 + r6) % 4294967296 = c6 at *
      have e7 : ((s7 : Int) + (r7 : Int)) % 4294967296 = (((s7 + r7) % 4294967296 : Nat) : Int) := by omega
      have q7 : wr.cell? ⟨B, 7, none⟩ = some (.int .u32 (s7 : Nat)) := blk_cell HF6.out.s rfl
      generalize (s7 + r7) % 4294967296 = c7 at *
      have HR := hide HF6.out.r
      simp only [List.getD_cons_zero, List.getD_cons_succ]
      go_wp2_with (refine wpList_storeRow rfl rfl (B + 1) _ (wv [c0, c1, c2, c3, c4, c5, c6, c7]).toArray 93 rfl rfl HR.out (info8w _ rfl) rfl (one_w _) ?_)
      refine bodyPost_ret (v := .agg (wv [c0, c1, c2, c3, c4, c5, c6, c7]).toArray) ((results_one (p := 4) (ty := 93) rfl _ _ _).trans (run_loadVar_row (P := Tryz.prog) _ (B + 1) 93 93 (wv [c0, c1, c2, c3, c4, c5, c6, c7]).toArray (0, 0) _ (row_same HR.out) Tryz.underlying93 rfl (info8w _ rfl))) rfl ⟨by rw [HC2.out], ?_⟩
      rw [HBB.out]
      exact HL6.out.trans ((row_kp wr (B + 1) _).below (by have := HL6.out.size; have := HBB.out; omega) (fun q e => by omega))
end
section
open Go.RowKit
set_option maxRecDepth 1000000 in
theorem first_any (w : World) : Calls Tryz.prog 79 #[] w fun e w' => e = .returned (.agg (wv hh).toArray) ∧ Below w.heap.size w w' := by
  go_enter Tryz.func79, Tryz.ntmps79
  go_wp2
  refine bodyPost_ret (v := .agg #[.int .u32 1779033703, .int .u32 3144134277, .int .u32 1013904242, .int .u32 2773480762, .int .u32 1359893119, .int .u32 2600822924, .int .u32 528734635, .int .u32 1541459225]) ((results_one (p := 0) (ty := 93) rfl _ _ _).trans (by go_simp; first | done | rfl)) rfl ⟨by kernel_rfl, ?_⟩
  exact (Below.refl _ _).alloc (Nat.le_refl _) _

def hc (s r : List Nat) (c : Nat) : List Value := wv s ++ (bv r ++ [.int .u64 ((c : Nat) : Int)])
theorem hc_len {s r : List Nat} {c : Nat} (hs : s.length = 8) (hr : r.length = 64) : (hc s r c).length = 73 := by simp [hc, wv, bv, hs, hr]
def tl (xs : List Nat) : List Nat := xs.drop (64 * (xs.length / 64))
theorem tl_len (xs : List Nat) : (tl xs).length = xs.length % 64 := by simp [tl]; omega
def fillz (l : List Nat) : List Nat := l ++ List.replicate (64 - l.length) 0
theorem fillz_len {l : List Nat} (h : l.length ≤ 64) : (fillz l).length = 64 := by simp [fillz]; omega
structure HS (w : World) (g : Nat) (xs : List Nat) : Prop where
  b : w.heap[g]? = some (.cells (hc (abs xs hh (xs.length / 64)) (fillz (tl xs)) xs.length).toArray 137 (0, 0))
theorem HS.below {w w' : World} {g : Nat} {xs : List Nat} (h : HS w g xs) (hb : Below w.heap.size w w') : HS w' g xs := ⟨(hb.block g (blk_lt h.b)).trans h.b⟩
theorem newCells : List.foldl (fun cs x => cs.setIfInBounds x.snd x.fst) Tryz.zeroCells137 (wv hh).zipIdx = (hc hh (List.replicate 64 0) 0).toArray := by kernel_rfl

set_option maxRecDepth 1000000 in
theorem new_any (w : World) : Calls Tryz.prog 50 #[] w fun e w' => ∃ g, e = .returned (.pointer (some ⟨g, 0, none⟩)) ∧ w.heap.size ≤ g ∧ HS w' g [] ∧ Below w.heap.size w w' := by
  go_enter Tryz.func50, Tryz.ntmps50
  go_wp2_with fail
  refine (first_any _).mono ?_
  rintro e w1 ⟨rfl, hb1⟩
  go_wp2_with fail
  rw [newCells]
  go_ret
  exact ⟨w1.heap.size, rfl, hb1.size, ⟨heap_alloc_new w1 _⟩, hb1.alloc hb1.size _⟩
end
section
open Go.RowKit
def endg (n : Nat) : List Nat := [128] ++ List.replicate (zer n) 0 ++ beb 8 (8 * n)
theorem pad_endg (xs : List Nat) : pad xs = xs ++ endg xs.length := by simp [pad, endg]
theorem make128 (w : World) : (Instr.makeSlice 41 (.int .i64 0) (.int .i64 128)).run Tryz.prog w = .ok (.slice (some ⟨w.heap.size, 0, none⟩) 0 128) (w.alloc (.cells (bv (List.replicate 128 0)).toArray 5)) := by kernel_rfl
theorem own_make {w : World} {c : Nat} {cs : List Value} (hl : cs.length = c) (hc : c ≤ maxLen) : (w.alloc (.cells cs.toArray 5)).ownsRow w.heap.size 5 1 (.slice (some ⟨w.heap.size, 0, none⟩) 0 c) 0 (bv []) :=
  ⟨rfl, .inr ⟨w.heap.size, c, _, rfl, Nat.le_refl _, heap_alloc_new w _, Nat.zero_le _, hc, by simpa using hl, by simp [bv]⟩⟩

set_option maxRecDepth 1000000 in
set_option maxHeartbeats 1000000 in
theorem ending_any (w : World) (n : Nat) (hlen : n ≤ 140737488355328) :
    Calls Tryz.prog 81 #[.int .u64 (n : Nat)] w fun e w' => ∃ v', e = .returned v' ∧ w'.ownsRow w.heap.size 5 1 v' (endg n).length (bv (endg n)) ∧ Below w.heap.size w w' := by
  generalize hB : w.heap.size = B at *
  have HB := hide hB
  clear hB
  have HL := hide hlen
  clear hlen
  have hmk := make128 w
  have HO0 : Hid ((w.alloc (.cells (bv (List.replicate 128 0)).toArray 5)).ownsRow w.heap.size 5 1 (.slice (some ⟨w.heap.size, 0, none⟩) 0 128) 0 (bv [])) := own_make (by simp [bv_len]) (by unfold maxLen; decide)
  have HB0 : Hid (Below B w (w.alloc (.cells (bv (List.replicate 128 0)).toArray 5))) := (Below.refl _ _).alloc (by have := HB.out; omega) _
  have hB0 : w.heap.size = B := HB.out
  rw [hB0] at hmk HO0
  clear hB0
  generalize w.alloc (.cells (bv (List.replicate 128 0)).toArray 5) = w0 at *
  have hs0 : B ≤ w0.heap.size := by have := HB0.out.size; have := HB.out; omega
  have HS1 := hide (one_bsl w0 128 (by decide))
  have HA1 := hide (HO0.out.alloc (.cells #[.int .u8 128] 5))
  go_enter Tryz.func81, Tryz.ntmps81
  go_wp2_with (at_builtin; refine append_bsl rfl _ _ rfl B _ 0 [] rfl HA1.out _ [128] rfl HS1.out ?b1 ?b2 ?_)
  case b1 => simp
  case b2 => simp; omega
  intro v2 w2 ho2 hg2
  have hlo := fun g (h : _ = some g) => (HA1.out.lt g h).1
  have HB2 : Hid (Below B w w2) := (HB0.out.alloc hs0 _).grown hg2 (by simp; omega) (fun g hg => hlo g hg)
  have HO2 := hide ho2
  clear ho2 hg2 hlo HA1 HS1 HO0 HB0 hs0 hmk
  go_wp2
  go_loopw [3] (fun u wx => ∃ z : Nat, z ≤ zer n ∧ lenOf u = 1 + z ∧ Hid (wx.ownsRow B 5 1 u (1 + z) (bv ([128] ++ List.replicate z 0))) ∧ Hid (Below B w wx)) (fun u _ => 1 + zer n - lenOf u)
  case atStart => exact ⟨0, Nat.zero_le _, own_lenOf HO2.out, by show World.ownsRow _ _ _ _ _ _ _; simpa using HO2.out, HB2⟩
  case round =>
    obtain ⟨z, hz, hlz, HO, HBL⟩ := hrel
    clear HO2 HB2
    obtain ⟨au, cu, hv, hv1, hv2, hv3⟩ := own_form HO.out
    subst hv
    clear hv1 hv2 hv3
    have hzl := zer_lt n
    have hzm := zer_mod n
    have hs3 : B ≤ wr.heap.size := by have := HBL.out.size; have := HB.out; omega
    have hl8 : n ≤ 140737488355328 := HL.out
    by_cases hlt : z < zer n
    · have hne : (((n : Int) + (1 + (z : Int)) + 8) % 64 != 0) = true := bne_iff_ne.2 (by omega)
      have HS1 := hide (one_bsl wr 0 (by decide))
      have HA1 := hide (HO.out.alloc (.cells #[.int .u8 0] 5))
      go_wp2_with (at_builtin; refine append_bsl rfl _ _ rfl B _ (1 + z) _ rfl HA1.out _ [0] rfl HS1.out ?b1 ?b2 ?_)
      case b1 => simp; omega
      case b2 => simp; omega
      intro v3 w3 ho3 hg3
      have hlo := fun g (h : _ = some g) => (HA1.out.lt g h).1
      have HB3 : Hid (Below B w w3) := (HBL.out.alloc hs3 _).grown hg3 (by simp; omega) (fun g hg => hlo g hg)
      have HO3 : Hid (w3.ownsRow B 5 1 v3 (1 + (z + 1)) (bv ([128] ++ List.replicate (z + 1) 0))) := by
        show World.ownsRow _ _ _ _ _ _ _
        have h := ho3
        rw [List.replicate_succ']
        simpa [Nat.add_assoc] using h
      clear ho3 hg3 hlo HA1 HS1
      obtain ⟨a3, c3, hv3, hv1, hv2, hv4⟩ := own_form HO3.out
      subst hv3
      clear hv1 hv2 hv4
      go_wp2
      go_roundw
      case rel => exact ⟨z + 1, by omega, rfl, HO3, HB3⟩
      case measure => simp [lenOf]; omega
    · have hzz : z = zer n := by omega
      have hne : (((n : Int) + (1 + (z : Int)) + 8) % 64 != 0) = false := bne_eq_false_iff_eq.2 (by omega)
      have HPD : Hid (endg n = [128] ++ List.replicate z 0 ++ beb 8 (8 * n)) := by show _ = _; rw [hzz]; rfl
      have HPL : Hid (([128] ++ List.replicate z 0).length = 1 + z) := by show _ = _; simp; omega
      generalize [128] ++ List.replicate z 0 = D at *
      have hL9 : 1 + z ≤ 100 := by omega
      have HL9 := hide hL9
      clear hzm hzl hlt hz hzz hlz
      go_wp2
      clear hne
      have hNN : 8 * (n : Int) = ((8 * n : Nat) : Int) := by omega
      go_loopw [3, 4] (fun u q wx => ∃ j : Nat, j ≤ 8 ∧ q = .int .i64 (7 - (j : Int)) ∧ Hid (wx.ownsRow B 5 1 u (1 + z + j) (bv (D ++ (beb 8 (8 * n)).take j))) ∧ Hid (Below B w wx)) (fun _ q _ => (intOf q + 1).toNat)
      case atStart => exact ⟨0, by omega, by simp, by show World.ownsRow _ _ _ _ _ _ _; simpa using HO.out, HBL⟩
      case round =>
        obtain ⟨j, hj, rfl, HO4, HBL4⟩ := hrel
        clear HO HBL
        rename World => wz
        have hs4 : B ≤ wz.heap.size := by have := HBL4.out.size; have := HB.out; omega
        by_cases hlt2 : j < 8
        · have hlt2' : (0 : Int) ≤ 7 - (j : Int) := by omega
          have hidx : (7 - (j : Int)) = ((7 - j : Nat) : Int) := by omega
          rw [hidx]
          have hq8 : 7 - j < 8 := by omega
          have HTK : Hid ((beb 8 (8 * n)).take (j + 1) = (beb 8 (8 * n)).take j ++ [8 * n / 256 ^ (7 - j) % 256]) := by
            show _ = _
            rw [← beb_get 8 (8 * n) j hlt2]
            exact take_snoc3 _ _ (by rw [beb_len]; exact hlt2)
          have HID : Hid (((7 - j : Nat) : Int) - 1 = 7 - ((j + 1 : Nat) : Int)) := by show _ = _; omega
          generalize 7 - j = q at *
          clear hidx hlt2'
          have hc : ((8 * n / 256 ^ q % 256 : Nat) : Int) = 8 * (n : Int) / 2 ^ (8 * q) % 256 := by rw [pow_int8]; rw [Int.natCast_emod, Int.natCast_ediv, Int.natCast_mul]; rfl
          have HS1 := hide (one_bsl wz (8 * n / 256 ^ q % 256) (Nat.mod_lt _ (by decide)))
          rw [hc] at HS1
          have HA1 := hide (HO4.out.alloc (.cells #[.int .u8 (8 * (n : Int) / 2 ^ (8 * q) % 256)] 5))
          clear hc HO4 hNN
          go_wp2_with (at_builtin; refine append_bsl rfl _ _ rfl B _ (1 + z + j) _ rfl HA1.out _ [8 * n / 256 ^ q % 256] rfl HS1.out ?b1 ?b2 ?_)
          case b1 => have := HL9.out; simp; omega
          case b2 => simp; omega
          intro v5 w5 ho5 hg5
          have hlo := fun g (h : _ = some g) => (HA1.out.lt g h).1
          have HB5 : Hid (Below B w w5) := (HBL4.out.alloc hs4 _).grown hg5 (by simp; omega) (fun g hg => hlo g hg)
          have HO5 : Hid (w5.ownsRow B 5 1 v5 (1 + z + (j + 1)) (bv (D ++ (beb 8 (8 * n)).take (j + 1)))) := by
            show World.ownsRow _ _ _ _ _ _ _
            rw [HTK.out]
            have h := ho5
            simpa [Nat.add_assoc] using h
          clear ho5 hg5 hlo HA1 HS1 HTK
          go_wp2
          go_roundw
          case rel => exact ⟨j + 1, by omega, by rw [← HID.out], HO5, HB5⟩
          case measure => simp [intOf]
        · have hj8 : j = 8 := by omega
          subst hj8
          have ho := HO4.out
          rw [List.take_of_length_le (by rw [beb_len]; exact Nat.le_refl _), ← HPD.out] at ho
          have HO6 := hide ho
          clear ho HO4
          go_wp2
          go_ret
          have e : (endg n).length = 1 + z + 8 := by rw [HPD.out, List.length_append, beb_len, HPL.out]
          rw [e]
          exact ⟨_, rfl, HO6.out, HBL4.out⟩
end
section
open Go.RowKit
theorem sha_len (xs : List Nat) : (sha xs).length = 32 := outb_len _ (abs_len _ hh rfl _)
theorem sha_byte (xs : List Nat) : ∀ x ∈ sha xs, x < 256 := outb_byte _
theorem bsl_block {w : World} {g : Nat} {xs : List Nat} {t : TypeId} (h : w.heap[g]? = some (.cells (bv xs).toArray t (0, 0))) (hb : ∀ x ∈ xs, x < 256) (hl : xs.length ≤ 9223372036854775807) : BSl w (.slice (some ⟨g, 0, none⟩) xs.length xs.length) xs := by
  refine ⟨⟨_, xs.length, rfl, ⟨Nat.le_refl _, fun h => by cases h⟩, .inr ⟨g, 0, rfl, fun j hj => ?_⟩⟩, hl, hb⟩
  rw [Nat.zero_add]
  exact blk_cell h (by rw [List.getElem?_toArray]; exact bv_get hj)
def dholds (h : Nat) (d xs : List Nat) : Bool := if h = 18 then decide (d = sha xs) else decide (h = 0) && (decide (d.length ≤ 64) && decide (d = xs))

theorem info32d (xs : List Nat) : (Tryz.prog.info? 77).map (·.size) = some (bv (sha xs)).toArray.size := by
  have h := info32
  simpa [bv_len, sha_len] using h
theorem one32 (xs : List Nat) : (bv (sha xs)).toArray.all (·.oneCell') = true := by
  rw [Array.all_eq_true_iff_forall_mem]
  intro u hu
  exact bv_one _ u (by simpa using hu)
end
section
open Go.RowKit
theorem index8 (S : List Nat) (hs : S.length = 8) (i : Nat) (hi : i < 8) (w : World) : Sem.run Tryz.prog (Instr.index 93 (.agg (wv S).toArray) (.int .i64 (i : Nat))) w = .ok (.int .u32 ((S.getD i 0 : Nat) : Int)) w := by
  have h := Tryz.underlying93
  have hg := wv_get (l := S) (j := i) (by omega)
  simp only [List.getD_eq_getElem?_getD] at hg
  simp [Instr.index, run_underlying h, asIntOf, go_sem, hi, hg]

set_option maxRecDepth 1000000 in
set_option maxHeartbeats 1000000 in
theorem laid_any (w : World) (s : List Nat) (hs : s.length = 8) (hw : ∀ x ∈ s, x < 4294967296) :
    Calls Tryz.prog 82 #[.agg (wv s).toArray] w fun e w' => e = .returned (.agg (bv (outb s)).toArray) ∧ Below w.heap.size w w' := by
  obtain ⟨s0, s1, s2, s3, s4, s5, s6, s7, rfl⟩ := eight s hs
  have HW := hide hw
  clear hw hs
  have hlit : (wv [s0, s1, s2, s3, s4, s5, s6, s7]).toArray = #[.int .u32 (s0 : Nat), .int .u32 (s1 : Nat), .int .u32 (s2 : Nat), .int .u32 (s3 : Nat), .int .u32 (s4 : Nat), .int .u32 (s5 : Nat), .int .u32 (s6 : Nat), .int .u32 (s7 : Nat)] := rfl
  rw [hlit]
  go_enter Tryz.func82, Tryz.ntmps82
  go_wp2_with fail
  rw [← hlit, ← z32_lit]
  have HR0 : Hid ((((w.alloc (.cells (wv [s0, s1, s2, s3, s4, s5, s6, s7]).toArray 93)).alloc (.cells (bv (List.replicate 32 0)).toArray 77)).alloc (.cells (bv (List.replicate 32 0)).toArray 77)).heap[w.heap.size + 1]? = some (.cells (bv (List.replicate 32 0)).toArray 77 (0, 0))) := by
    have h := heap_alloc_new (w.alloc (.cells (wv [s0, s1, s2, s3, s4, s5, s6, s7]).toArray 93)) (.cells (bv (List.replicate 32 0)).toArray 77)
    have e : (w.alloc (.cells (wv [s0, s1, s2, s3, s4, s5, s6, s7]).toArray 93)).heap.size = w.heap.size + 1 := by simp
    rw [e] at h
    exact blk_alloc _ h
  have HO0 : Hid ((((w.alloc (.cells (wv [s0, s1, s2, s3, s4, s5, s6, s7]).toArray 93)).alloc (.cells (bv (List.replicate 32 0)).toArray 77)).alloc (.cells (bv (List.replicate 32 0)).toArray 77)).heap[w.heap.size + 1 + 1]? = some (.cells (bv (List.replicate 32 0)).toArray 77 (0, 0))) := by
    have h := heap_alloc_new ((w.alloc (.cells (wv [s0, s1, s2, s3, s4, s5, s6, s7]).toArray 93)).alloc (.cells (bv (List.replicate 32 0)).toArray 77)) (.cells (bv (List.replicate 32 0)).toArray 77)
    have e : ((w.alloc (.cells (wv [s0, s1, s2, s3, s4, s5, s6, s7]).toArray 93)).alloc (.cells (bv (List.replicate 32 0)).toArray 77)).heap.size = w.heap.size + 1 + 1 := by simp
    rw [e] at h
    exact h
  have HL0 : Hid (Below w.heap.size w (((w.alloc (.cells (wv [s0, s1, s2, s3, s4, s5, s6, s7]).toArray 93)).alloc (.cells (bv (List.replicate 32 0)).toArray 77)).alloc (.cells (bv (List.replicate 32 0)).toArray 77))) := (((Below.refl _ _).alloc (Nat.le_refl _) _).alloc (by simp) _).alloc (by simp; omega) _
  clear hlit
  generalize ((w.alloc (.cells (wv [s0, s1, s2, s3, s4, s5, s6, s7]).toArray 93)).alloc (.cells (bv (List.replicate 32 0)).toArray 77)).alloc (.cells (bv (List.replicate 32 0)).toArray 77) = w1 at *
  generalize hB : w.heap.size = B at *
  have HBB := hide hB
  clear hB
  have HSL : Hid ([s0, s1, s2, s3, s4, s5, s6, s7].length = 8) := rfl
  generalize hS : [s0, s1, s2, s3, s4, s5, s6, s7] = S at *
  have HS := hide hS
  clear hS
  have HOL := hide (outb_len S HSL.out)
  go_loopw [7] (fun ii wx => ∃ i : Nat, i ≤ 8 ∧ ii = .int .i64 (i : Nat) ∧ Hid (wx.heap[B + 1]? = some (.cells (bv (List.replicate 32 0)).toArray 77 (0, 0))) ∧ Hid (wx.heap[B + 1 + 1]? = some (.cells (bv ((outb S).take (4 * i) ++ List.replicate (32 - 4 * i) 0)).toArray 77 (0, 0))) ∧ Hid (Below B w wx)) (fun ii _ => 8 - (intOf ii).toNat)
  case atStart => exact ⟨0, by omega, rfl, HR0, HO0, HL0⟩
  case round =>
    obtain ⟨i, hi, rfl, HR1, HO1, HL1⟩ := hrel
    clear HR0 HO0 HL0
    by_cases hlt : i < 8
    · have hlt' : (i : Int) < 8 := by omega
      have hix := index8 S HSL.out i hlt wr
      have hxb := getD_w HW.out i
      have HG : Hid (∀ k, k < 4 → (outb S).getD (4 * i + k) 0 = S.getD i 0 / 256 ^ (3 - k) % 256) := by
        intro k hk
        rw [outb_get S HSL.out (4 * i + k) (by omega)]
        have e1 : (4 * i + k) / 4 = i := by omega
        have e2 : (4 * i + k) % 4 = k := by omega
        rw [e1, e2]
      have HCL : Hid (∀ k, k < 4 → wr.cell? ⟨B + 1 + 1, 4 * i + k, none⟩ = some (.int .u8 0)) := by
        intro k hk
        refine blk_cell HO1.out ?_
        rw [List.getElem?_toArray, bv_get (by simp [HOL.out]; omega)]
        have e : ((outb S).take (4 * i) ++ List.replicate (32 - 4 * i) 0).getD (4 * i + k) 0 = 0 := by
          rw [List.getD_eq_getElem?_getD, List.getElem?_append_right (by simp; omega)]
          simp only [List.getElem?_replicate]
          split <;> rfl
        rw [e]
        rfl
      have c0 : wr.cell? ⟨B + 1 + 1, 4 * i, none⟩ = some (.int .u8 0) := HCL.out 0 (by omega)
      have c1 := HCL.out 1 (by omega)
      have c2 := HCL.out 2 (by omega)
      have c3 := HCL.out 3 (by omega)
      have f0 := blk_frozen (4 * i) HO1.out
      have f1 := blk_frozen (4 * i + 1) HO1.out
      have f2 := blk_frozen (4 * i + 2) HO1.out
      have f3 := blk_frozen (4 * i + 3) HO1.out
      generalize S.getD i 0 = x at *
      go_wp2_with fail
      go_roundw
      case rel =>
        have e0 : (x : Int) / 16777216 = (((outb S).getD (4 * i) 0 : Nat) : Int) := by
          have h := HG.out 0 (by omega)
          rw [Nat.add_zero] at h
          rw [h]
          simp only [Nat.reduceSub, Nat.reducePow]
          omega
        have e1 : (x : Int) / 65536 % 256 = (((outb S).getD (4 * i + 1) 0 : Nat) : Int) := by
          rw [HG.out 1 (by omega)]
          simp only [Nat.reduceSub, Nat.reducePow]
          omega
        have e2 : (x : Int) / 256 % 256 = (((outb S).getD (4 * i + 2) 0 : Nat) : Int) := by
          rw [HG.out 2 (by omega)]
          simp only [Nat.reduceSub, Nat.reducePow]
          omega
        have e3 : (x : Int) % 256 = (((outb S).getD (4 * i + 3) 0 : Nat) : Int) := by
          rw [HG.out 3 (by omega)]
          simp only [Nat.reduceSub, Nat.reducePow]
          omega
        rw [e0, e1, e2, e3]
        refine ⟨i + 1, by omega, by go_num, ?_, ?_, below_set3 (below_set3 (below_set3 (below_set3 HL1.out _ _ (by omega) _) _ _ (by omega) _) _ _ (by omega) _) _ _ (by omega) _⟩
        · exact blk_other _ _ (blk_other _ _ (blk_other _ _ (blk_other _ _ HR1.out (by omega)) (by omega)) (by omega)) (by omega)
        · have k0 := blk_set (4 * i) (.int .u8 (((outb S).getD (4 * i) 0 : Nat) : Int)) HO1.out
          rw [out_set (outb S) HOL.out (4 * i) (by omega)] at k0
          have k1 := blk_set (4 * i + 1) (.int .u8 (((outb S).getD (4 * i + 1) 0 : Nat) : Int)) k0
          rw [out_set (outb S) HOL.out (4 * i + 1) (by omega)] at k1
          have k2 := blk_set (4 * i + 2) (.int .u8 (((outb S).getD (4 * i + 2) 0 : Nat) : Int)) k1
          rw [out_set (outb S) HOL.out (4 * i + 2) (by omega)] at k2
          have k3 := blk_set (4 * i + 3) (.int .u8 (((outb S).getD (4 * i + 3) 0 : Nat) : Int)) k2
          rw [out_set (outb S) HOL.out (4 * i + 3) (by omega)] at k3
          exact k3
      case measure => simp [intOf]; omega
    · have hi8 : i = 8 := by omega
      have hi6 : ¬ (i : Int) < 8 := by omega
      have HOF : Hid (wr.heap[B + 1 + 1]? = some (.cells (bv (outb S)).toArray 77 (0, 0))) := by
        have h := HO1.out
        rw [hi8, List.take_of_length_le (by rw [HOL.out]; omega)] at h
        show _ = _
        simpa using h
      clear hi8 hlt hi HO1
      have HI32 : Hid ((Tryz.prog.info? 77).map (·.size) = some (bv (outb S)).toArray.size) := by
        have h := info32
        show _ = _
        simpa [bv_len, HOL.out] using h
      have HSZ : Hid ((bv (List.replicate 32 0)).toArray.size = (bv (outb S)).toArray.size) := by show _ = _; simp [bv_len, HOL.out]
      have HON : Hid ((bv (outb S)).toArray.all (·.oneCell') = true) := by
        show _ = _
        rw [Array.all_eq_true_iff_forall_mem]
        intro u hu
        exact bv_one _ u (by simpa using hu)
      have hne : ¬ B + 1 = B + 1 + 1 := by omega
      generalize hD : outb S = D at *
      have HD := hide hD
      clear hD
      go_wp2_with (first
        | (refine wpList_loadRow rfl rfl (B + 1 + 1) 32 (bv D).toArray 77 rfl HOF.out Tryz.underlying77 HI32.out ?_)
        | (refine wpList_storeRow rfl rfl (B + 1) _ (bv D).toArray 77 rfl rfl HR1.out HI32.out HSZ.out HON.out ?_))
      refine bodyPost_ret (v := .agg (bv D).toArray) ((results_one (p := 2) (ty := 77) rfl _ _ _).trans (run_loadVar_row (P := Tryz.prog) _ (B + 1) 77 77 (bv D).toArray (0, 0) _ (row_same HR1.out) Tryz.underlying77 rfl HI32.out)) rfl ⟨by rw [HS.out, HD.out], ?_⟩
      rw [HBB.out]
      exact HL1.out.trans ((row_kp wr (B + 1) _).below (by have := HL1.out.size; have := HBB.out; omega) (fun q e => by omega))
end
section
open Go.RowKit
structure Ext (w : World) where
  w' : World
  h : Below w.heap.size w w'
instance (w : World) : Nonempty (Ext w) := ⟨⟨w, Below.refl _ _⟩⟩
theorem Ext.cell {w : World} {p : Addr} {v : Value} (h : w.cell? p = some v) (t : Ext w) : t.w'.cell? p = some v := keep_below t.h _ _ h
theorem Ext.bsl {w : World} {v : Value} {xs : List Nat} (h : BSl w v xs) (t : Ext w) : BSl t.w' v xs := h.move (keep_below t.h)
theorem region_ext {id : Nat} {Q : Exit → Act → World → Prop} {a : Act} {w : World} {l : List Oper} (hm : Tryz.prog.follows .mixedOrders = true) (hB : Region.lexB .any l.toArray = true)
    (h : wpQuiet Tryz.prog l.toArray (fun w' => ∃ t : Ext w, w' = t.w') (fun a' => ∀ w', (∃ t : Ext w, w' = t.w') → Q .normal a' w') l a) : (Code.region id l.toArray true).wp Tryz.prog Q a w :=
  wp_region_quiet (C := fun w' => ∃ t : Ext w, w' = t.w') hm hB ⟨⟨w.drew, (Below.refl _ _).drew⟩, rfl⟩ (by simpa using h)
theorem Calls.ext_below {f : FuncId} {args : Array Value} {w : World} {t : Ext w} {v : Value} (h : Calls Tryz.prog f args t.w' fun e w' => e = .returned v ∧ Below t.w'.heap.size t.w' w') : Calls Tryz.prog f args t.w' fun e w'' => e = .returned v ∧ ∃ t' : Ext w, w'' = t'.w' :=
  h.mono fun _ w' ⟨he, hb⟩ => ⟨he, ⟨w', t.h.trans (hb.mono t.h.size)⟩, rfl⟩
end
section
open Go.RowKit Go
section
variable {P : Program} {ops : Array Oper} {md : Region.Mode} {C : World → Prop}

def hdQ (P : Program) (md : Region.Mode) (ops : Array Oper) (C : World → Prop) (n : Nat) (L : Array Bool → Act → Prop) : Nat → Array Bool → Act → Prop
  | 0, s, a => L s a
  | f + 1, s, a => Region.ready md ops s ≠ [] ∧ ∀ i ∈ Region.ready md ops s, i < n ∧ qOp P ops C i (hdQ P md ops C n L f (s.setIfInBounds i true)) a

theorem hdQ_any {n g : Nat} {L : Array Bool → Act → Prop} {Q : Exit → Act → World → Prop} (hL : ∀ s a w, C w → L s a → wpAny P md ops Q g s a w) : ∀ (f : Nat) (s : Array Bool) (a : Act) (w : World), C w → hdQ P md ops C n L f s a → wpAny P md ops Q (f + g) s a w := by
  intro f
  induction f with
  | zero => intro s a w hw h; rw [Nat.zero_add]; exact hL s a w hw h
  | succ f ih =>
    intro s a w hw h
    have e : f + 1 + g = (f + g) + 1 := by omega
    rw [e]
    exact ⟨fun h0 => absurd h0 h.1, fun i hi => wpOp_of_qOp hw (fun a' w' hw' h' => ih _ a' w' hw' h') (h.2 i hi).2⟩

theorem hdQ_first {n i : Nat} {oi : Oper} {v : Value} {L : Array Bool → Act → Prop} (hi : ops[i]? = some oi) (hsel : ∀ (j : Nat) (o : Oper) cs b, ops[j]? = some o → o.op ≠ .select cs b)
    (hs : Region.sinkB md ops n = true) (hc : Region.chainB md ops n = true) (hn : n < ops.size) (hin : i < n) (hd : ∀ s a, L s a → ∀ j ∈ Region.ready md ops s, n ≤ j)
    (f : Nat) : ∀ (s : Array Bool) (a : Act), HeadInv md ops n s →
      (∀ j oj, ops[j]? = some oj → j ≠ i → s.getD j true = false → (∀ e ∈ oj.after, Region.binds md e = true → e.on ≠ i) → oi.apart ops oj = true) →
      i ∈ Region.ready md ops s → YieldsIn P ops C oi v a → hdQ P md ops C n L f (s.setIfInBounds i true) (a.put oi.dst v) → hdQ P md ops C n L (f + 1) s a := by
  have low : ∀ s, HeadInv md ops n s → i ∈ Region.ready md ops s → ∀ j ∈ Region.ready md ops s, j < n := fun s inv hr j hj => by
    by_cases h : j < n
    · exact h
    · exact absurd hj (tail_waits hs hc hn inv _ i rfl hin (mem_ready.1 hr).1 j (by omega))
  have some_ready : ∀ s : Array Bool, i ∈ Region.ready md ops s → Region.ready md ops s ≠ [] := fun s hr h => by rw [h] at hr; cases hr
  induction f with
  | zero =>
    intro s a inv _ hr hy H
    refine ⟨some_ready s hr, fun j hj => ⟨low s inv hr j hj, ?_⟩⟩
    by_cases e : j = i
    · subst e; exact hy.qOp hi H
    · have := hd _ _ H j (ready_mono hj e)
      have := low s inv hr j hj
      omega
  | succ f ih =>
    intro s a inv hf hr hy H
    refine ⟨some_ready s hr, fun j hj => ⟨low s inv hr j hj, ?_⟩⟩
    by_cases e : j = i
    · subst e; exact hy.qOp hi H
    · obtain ⟨hju, oj, hoj, hall⟩ := mem_ready.1 hj
      have hun := getD_both (mem_ready.1 hr).1
      have hfj := hf j oj hoj e hju (fun d hd' hb he => by
        have h := hall d hd' hb
        rw [he, hun] at h
        cases h)
      have h2 := qOp_put hoj hfj (fun cs b => hsel i oi cs b hi) (fun cs b => hsel j oj cs b hoj) hy (H.2 j (ready_mono hj e)).2
      refine qOp_mono (fun a' h3 => ih (s.setIfInBounds j true) a' (inv.set hj (low s inv hr j hj)) (fun k ok hk hki hku hno => hf k ok hk hki ?_ hno) (ready_mono hr (Ne.symm e)) h3.1 ?_) h2
      · by_cases ejk : j = k
        · subst ejk; exact hju
        · rw [getD_set_ne true ejk] at hku; exact hku
      · rw [Array.setIfInBounds_comm _ _ e]
        exact h3.2

theorem hdQ_lex {n g : Nat} {Lq : Act → Prop} (hsel : Region.noSelect ops = true) (hs : Region.sinkB md ops n = true) (hc : Region.chainB md ops n = true) (hn : n < ops.size) (l : List Oper) :
    ∀ (k : Nat) (s : Array Bool) (a : Act), (∀ j, j < l.length → l[j]? = ops[k + j]?) → k + l.length = n → HeadInv md ops n s → Region.lexHead md ops g l.length k s = true → wpQuiet P ops C Lq l a →
      hdQ P md ops C n (fun s' a' => Region.seqB md ops g n s' = true ∧ Lq a') l.length s a := by
  induction l with
  | nil =>
    intro k s a _ hk _ hB h
    obtain rfl : k = n := by simpa using hk
    exact ⟨by simpa [Region.lexHead] using hB, h⟩
  | cons o l ih =>
    intro k s a hl hk inv hB h
    have h0 : ops[k]? = some o := by simpa using (hl 0 (by simp)).symm
    simp only [List.length_cons] at hk
    simp only [List.length_cons, Region.lexHead, Bool.and_eq_true] at hB
    have hr : k ∈ Region.ready md ops s := by simpa using hB.1.1
    have hq : qOp P ops C k (wpQuiet P ops C Lq l) a := by unfold qOp; simp only [h0]; exact h
    obtain ⟨v, hy, hK⟩ := yieldsIn_of_qOp h0 hq
    refine hdQ_first h0 (Region.noSelect_spec hsel) hs hc hn (by omega) (fun s' a' hL => seqB_ready hL.1) l.length s a inv (Region.free_spec h0 hB.1.2) hr hy (ih (k + 1) _ _ (fun j hj => ?_) (by omega) (inv.set hr (by omega)) hB.2 hK)
    have := hl (j + 1) (by simp; omega)
    simpa [Nat.add_assoc, Nat.add_comm 1 j] using this

theorem wp_region_quiet_tail {id : Nat} {Q : Exit → Act → World → Prop} {a : Act} {w : World} {l : List Oper} (n : Nat) (hm : P.follows .mixedOrders = true) (hB : Region.lexTailB .any l.toArray n = true) (hC : C w.drew)
    (h : wpQuiet P l.toArray C (fun a' => ∀ w', C w' → wpList P l.toArray Q (l.drop n) a' w') (l.take n) a) : (Code.region id l.toArray true).wp P Q a w := by
  simp only [Region.lexTailB, Bool.and_eq_true, decide_eq_true_eq] at hB
  obtain ⟨⟨⟨⟨hsel, hn⟩, hs⟩, hc⟩, hlex⟩ := hB
  have hn' : n < l.length := by simpa using hn
  have ht : (l.take n).length = n := by simp; omega
  have hd : (l.drop n).length = l.toArray.size - n := by simp
  have inv : HeadInv .any l.toArray n (Array.replicate l.toArray.size false) :=
    ⟨by simp, fun j oj _ hl => absurd hl (by rw [getD_replicate_false]; decide), fun t _ ht => getD_in (by simpa using ht) (getD_replicate_false _ _)⟩
  have H := hdQ_lex (C := C) (md := .any) (g := l.toArray.size - n) hsel hs hc hn (l.take n) 0 _ a (fun j hj => by
    have : j < n := by omega
    simp [this]) (by simpa using ht) inv (by rw [ht]; exact hlex) h
  refine wp_region_any hm ?_
  have R := hdQ_any (Q := Q) (g := l.toArray.size - n) (fun s a' w' hw' hL => by
    have := wpAny_of_seq (md := .any) (Q' := Q) (l.drop n) n s a' w' (fun j => by simp [List.getElem?_drop]) (by rw [hd]; exact hL.1) (hL.2 w' hw')
    rwa [hd] at this) _ _ _ w.drew hC H
  have e : n + (l.toArray.size - n) = l.toArray.size := by simp; omega
  rw [ht, e] at R
  exact R
end

theorem region_ext_tail {id : Nat} {Q : Exit → Act → World → Prop} {a : Act} {w : World} {l : List Oper} (n : Nat) (hm : Tryz.prog.follows .mixedOrders = true) (hB : Region.lexTailB .any l.toArray n = true)
    (h : wpQuiet Tryz.prog l.toArray (fun w' => ∃ t : Ext w, w' = t.w') (fun a' => ∀ w', (∃ t : Ext w, w' = t.w') → wpList Tryz.prog l.toArray Q (l.drop n) a' w') (l.take n) a) : (Code.region id l.toArray true).wp Tryz.prog Q a w :=
  wp_region_quiet_tail (C := fun w' => ∃ t : Ext w, w' = t.w') n hm hB ⟨⟨w.drew, (Below.refl _ _).drew⟩, rfl⟩ h
end
section
open Go.RowKit Go
theorem addr_add (g o j : Nat) : (⟨g, o, none⟩ : Addr).add j = ⟨g, o + j, none⟩ := by unfold Addr.add; split <;> simp_all
theorem part_load {w : World} {T e : TypeId} {n : Nat} (g off : Nat) (cs : List Value) (hu : Tryz.prog.underlying T = some (.array n e)) (hi : (Tryz.prog.info? T).map (·.size) = some cs.length) (hc : ∀ j v, cs[j]? = some v → w.cell? ⟨g, off + j, none⟩ = some v) :
    (Instr.loadAt T (.pointer (some ⟨g, off, none⟩))).run Tryz.prog w = .ok (.agg cs.toArray) w := by
  have hl := run_loadCells_list (P := Tryz.prog) (w := w) ⟨g, off, none⟩ cs (fun j v hv => by rw [addr_add]; exact hc j v hv)
  simp only [Instr.loadAt, Instr.sureAddr, Sem.run_bind, Sem.run_pure, Result.andThen]
  cases hq : Tryz.prog.info? T with
  | none => simp [hq] at hi
  | some i =>
    have hs : i.size = cs.length := by simpa [hq] using hi
    have ha : (isAgg T).run Tryz.prog w = .ok true w := by
      unfold isAgg
      rw [Sem.run_bind, run_underlying hu w]
      simp
    simp [loadVar, ha, sizeOf, typeInfo, hq, hs, hl]
theorem part_store {w : World} {T t : TypeId} (g off : Nat) (cur cs : List Value) (hg : w.heap[g]? = some (.cells cur.toArray t (0, 0))) (hi : (Tryz.prog.info? T).map (·.size) = some cs.length) (hf : off + cs.length ≤ cur.length) (h1 : ∀ v ∈ cs, v.oneCell' = true) :
    (Instr.storeAt T (.pointer (some ⟨g, off, none⟩)) (.agg cs.toArray)).run Tryz.prog w = .ok () (w.setRow g (splice cur off cs).toArray) := by
  have hst := run_storeCells_at (P := Tryz.prog) g off t cs 0 cur.toArray w hg (by simpa using hf) h1
  simp only [Nat.add_zero, List.append_assoc] at hst
  simp only [Instr.storeAt, Instr.sureAddr, Sem.run_bind, Sem.run_pure, Result.andThen]
  cases hq : Tryz.prog.info? T with
  | none => simp [hq] at hi
  | some i =>
    have hs : cs.length = i.size := by simp [hq] at hi; omega
    simp [storeVar, sizeOf, typeInfo, hq, Value.cells, hs, hst, splice]
theorem qstep_load {C : World → Prop} {ops : Array Oper} {o : Oper} {a : Act} {K : Act → Prop} {T e : TypeId} {n : Nat} {p : Operand} (hgd : o.guard = none) (ho : o.op = .load T p) (g off : Nat) (cs : List Value)
    (hp : a.eval p = .pointer (some ⟨g, off, none⟩)) (hu : Tryz.prog.underlying T = some (.array n e)) (hi : (Tryz.prog.info? T).map (·.size) = some cs.length) (hc : ∀ w, C w → ∀ j v, cs[j]? = some v → w.cell? ⟨g, off + j, none⟩ = some v)
    (h : K (a.put o.dst (.agg cs.toArray))) : if Region.wanted o (yielded ops a.tmps) = true then o.quiet Tryz.prog a C K else K (a.put o.dst undef) := by
  have hw : Region.wanted o (yielded ops a.tmps) = true := by simp [Region.wanted, hgd]
  rw [if_pos hw]
  refine ⟨.agg cs.toArray, fun w hC => ?_, h⟩
  unfold Oper.quietAt execOp
  simp only [ho, Sem.run_bind, hp, part_load g off cs hu hi (hc w hC), Result.andThen_ok]
  exact ⟨rfl, rfl⟩
theorem wpList_storePart {ops : Array Oper} {rest : List Oper} {o : Oper} {a : Act} {Q : Exit → Act → World → Prop} {w : World} {T : TypeId} {p x : Operand} (hgd : o.guard = none) (ho : o.op = .store T p x) (g off : Nat) (cur cs : List Value) (t : TypeId)
    (hp : a.eval p = .pointer (some ⟨g, off, none⟩)) (hx : a.eval x = .agg cs.toArray) (hg : w.heap[g]? = some (.cells cur.toArray t (0, 0))) (hi : (Tryz.prog.info? T).map (·.size) = some cs.length) (hf : off + cs.length ≤ cur.length) (h1 : ∀ v ∈ cs, v.oneCell' = true)
    (h : ∀ w', Hid (w'.heap[g]? = some (.cells (splice cur off cs).toArray t (0, 0))) → Hid (Kp (fun q => q = g) w w') → wpList Tryz.prog ops Q rest (a.put o.dst undef) w') : wpList Tryz.prog ops Q (o :: rest) a w := by
  refine wpList_plain hgd fun K hK => ?_
  unfold Oper.wp execOp
  simp only [ho, Sem.run_bind, hp, hx, part_store g off cur cs hg hi hf h1, Result.andThen_ok]
  exact hK _ _ (h _ (row_same hg) (row_kp _ _ _))
theorem wpList_copyPart {ops : Array Oper} {rest : List Oper} {o : Oper} {a : Act} {Q : Exit → Act → World → Prop} {w : World} (hgd : o.guard = none) (d s : Operand)
    (ho : o.op = .call { callee := .builtin .copy, args := #[d, s], argTypes := #[41, 41] }) (g off dLen dCap : Nat) (hd : a.eval d = .slice (some ⟨g, off, none⟩) dLen dCap) (xs : List Nat) (v : Value) (hs : a.eval s = v) (hb : BSl w v xs)
    (cur : List Value) (t : TypeId) (hg : w.heap[g]? = some (.cells cur.toArray t (0, 0))) (ys : List Nat) (k : Nat) (hk : ys.length = k) (hy : ys = xs.take dLen) (hf : off + ys.length ≤ cur.length)
    (h : ∀ w', Hid (w'.heap[g]? = some (.cells (splice cur off (bv ys)).toArray t (0, 0))) → Hid (Kp (fun q => q = g) w w') → wpList Tryz.prog ops Q rest (a.put o.dst (.int .i64 (k : Nat))) w') : wpList Tryz.prog ops Q (o :: rest) a w := by
  subst hk
  obtain ⟨⟨a', cap, rfl, hn, hc⟩, hmax, hby⟩ := hb
  have hsz : (Tryz.prog.info? 5).map (·.size) = some 1 := by
    have h5 := Tryz.info5
    cases hq : Tryz.prog.info? 5 with
    | none => simp [hq] at h5
    | some i => simp [hq] at h5 ⊢; exact h5.2.1
  have hl : ys.length = Nat.min xs.length dLen := by subst hy; simp [Nat.min_comm]
  by_cases h0 : ys.length = 0
  · refine wpList_copy_nothing hgd d s _ _ ho 5 Tryz.underlying41 hsz _ _ _ _ _ _ hd hs (by omega) ?_
    have e0 : ys = [] := List.eq_nil_of_length_eq_zero h0
    have h2 := h w (by show _ = _; subst e0; simpa [splice, bv] using hg) (Kp.refl _ _)
    rw [h0] at h2
    exact h2
  · rcases hc with hc | ⟨b, o', rfl, hc⟩
    · subst hc; subst hy; simp at h0
    have hlb : (bv ys).length = ys.length := bv_len ys
    refine wpList_copy_own hgd d s _ _ ho 5 Tryz.underlying41 hsz g off dLen dCap ⟨b, o', none⟩ _ _ hd hs cur.toArray t hg (bv ys) (by rw [hlb]; exact hl) (fun j v hv => ?_) (by rw [hlb]; simpa using hf) (bv_one ys) ?_
    · have hj : j < ys.length := by
        rw [← hlb]
        exact (List.getElem?_eq_some_iff.1 hv).1
      rw [bv_get hj] at hv
      have e : ys.getD j 0 = xs.getD j 0 := by
        subst hy
        simp only [List.getD_eq_getElem?_getD, List.getElem?_take]
        rw [if_pos (by simp at hj; omega)]
      rw [addr_add, hc j (by have := Nat.min_le_left xs.length dLen; have : ys.length ≤ xs.length := by rw [hl]; exact this
                             omega), ← e]
      exact hv
    · have h2 := h (w.setRow g (splice cur off (bv ys)).toArray) (row_same hg) (row_kp _ _ _)
      simpa [splice, hlb, goInt] using h2
theorem wpList_clearPart {ops : Array Oper} {rest : List Oper} {o : Oper} {a : Act} {Q : Exit → Act → World → Prop} {w : World} (hgd : o.guard = none) (s : Operand)
    (ho : o.op = .call { callee := .builtin .clear, args := #[s], argTypes := #[41] }) (g off n c : Nat) (hs : a.eval s = .slice (some ⟨g, off, none⟩) n c) (hn : 0 < n)
    (cur : List Value) (t : TypeId) (hg : w.heap[g]? = some (.cells cur.toArray t (0, 0))) (hf : off + n ≤ cur.length)
    (h : ∀ w', Hid (w'.heap[g]? = some (.cells (splice cur off (bv (List.replicate n 0))).toArray t (0, 0))) → Hid (Kp (fun q => q = g) w w') → wpList Tryz.prog ops Q rest (a.put o.dst (.tuple #[])) w') : wpList Tryz.prog ops Q (o :: rest) a w := by
  refine wpList_plain hgd fun K hK => ?_
  have hz : (∀ w, (zeroValue 5).run Tryz.prog w = .ok (.int .u8 0) w) := by
    have h5 := Tryz.info5
    intro w
    cases hq : Tryz.prog.info? 5 with
    | none => simp [hq] at h5
    | some i => simp [hq] at h5; simp [zeroValue, typeInfo, hq, h5.1]
  have hst := run_storeCells_at (P := Tryz.prog) g off t (bv (List.replicate n 0)) 0 cur.toArray w hg (by simpa [bv_len] using hf) (bv_one _)
  simp only [Nat.add_zero, List.append_assoc] at hst
  have hzc : (Builtin.zeroCells (Value.int .u8 0).cells n).toList = bv (List.replicate n 0) := by
    simp [Builtin.zeroCells, Value.cells, bv]
    apply List.ext_getElem
    · simp
    · intro i h1 h2
      simp [Nat.mod_one]
  have hrun : (Builtin.clear_ #[41] o.type #[.slice (some ⟨g, off, none⟩) n c]).run Tryz.prog w = .ok (.tuple #[]) (w.setRow g (splice cur off (bv (List.replicate n 0))).toArray) := by
    obtain ⟨m, rfl⟩ : ∃ m, n = m + 1 := ⟨n - 1, by omega⟩
    simp [Builtin.clear_, run_underlying Tryz.underlying41, hz, hzc, hst, splice]
  unfold Oper.wp
  simp [execOp, ho, resolve, invoke, builtin, hs, hrun, Result.andThen]
  exact hK _ _ (h _ (row_same hg) (row_kp _ _ _))
end
section
open Go.RowKit Go
theorem wrd_take (l : List Nat) (p : Nat) (q : Nat) (h : q + 4 ≤ 64) : wrd ((l.drop p).take 64) q = wrd l (p + q) := by
  unfold wrd
  have g : ∀ j, j < 64 → ((l.drop p).take 64).getD j 0 = l.getD (p + j) 0 := by
    intro j hj
    simp [List.getD, hj]
  rw [g q (by omega), g (q + 1) (by omega), g (q + 2) (by omega), g (q + 3) (by omega)]
  rfl
theorem wl_take (l : List Nat) (p : Nat) : ∀ n, wl ((l.drop p).take 64) 0 n = wl l p n
  | 0 => rfl
  | n + 1 => by
    rw [wl, wl, wl_take l p n]
    by_cases h : n < 16
    · rw [if_pos h, if_pos h, Nat.zero_add, wrd_take l p (4 * n) (by omega)]
    · rw [if_neg h, if_neg h]
theorem rl_take (l : List Nat) (p : Nat) (s : List Nat) : ∀ n, rl ((l.drop p).take 64) 0 s n = rl l p s n
  | 0 => rfl
  | n + 1 => by rw [rl, rl, rl_take l p s n, wl_take]
theorem cmp_take (l : List Nat) (p : Nat) (s : List Nat) : cmp ((l.drop p).take 64) 0 s = cmp l p s := by
  unfold cmp
  rw [rl_take]
theorem abs_app (xs ys s : List Nat) : ∀ n, 64 * n ≤ xs.length → abs (xs ++ ys) s n = abs xs s n
  | 0, _ => rfl
  | n + 1, h => by
    rw [abs, abs, abs_app xs ys s n (by omega), ← cmp_take, ← cmp_take xs]
    congr 1
    rw [List.drop_append_of_le_length (by omega), List.take_append_of_le_length (by simp; omega)]
theorem hc_rest {s r : List Nat} {c off : Nat} {ys : List Nat} (hs : s.length = 8) (hr : off + ys.length ≤ r.length) : splice (hc s r c) (8 + off) (bv ys) = hc s (splice r off ys) c := by
  have e8 : (wv s).length = 8 := by rw [wv_len, hs]
  have eb : (bv r).length = r.length := bv_len r
  have ey : (bv ys).length = ys.length := bv_len ys
  unfold splice hc
  rw [List.take_append, List.drop_append, e8, ey]
  have a1 : (wv s).take (8 + off) = wv s := List.take_of_length_le (by omega)
  have a2 : (wv s).drop (8 + off + ys.length) = [] := List.drop_eq_nil_of_le (by omega)
  have a3 : 8 + off - 8 = off := by omega
  have a4 : 8 + off + ys.length - 8 = off + ys.length := by omega
  rw [a1, a2, a3, a4, List.take_append_of_le_length (by omega), List.drop_append_of_le_length (by omega)]
  simp [bv, List.map_take, List.map_drop]
theorem hc_state {s s' r : List Nat} {c : Nat} (hs : s.length = 8) (hs' : s'.length = 8) : splice (hc s r c) 0 (wv s') = hc s' r c := by
  have e8 : (wv s).length = 8 := by rw [wv_len, hs]
  have e9 : (wv s').length = 8 := by rw [wv_len, hs']
  unfold splice hc
  rw [e9, List.take_zero, List.nil_append, List.drop_append, e8]
  have a2 : (wv s).drop (0 + 8) = [] := List.drop_eq_nil_of_le (by omega)
  rw [a2]
  simp
theorem hc_count {s r : List Nat} {c c' : Nat} (hs : s.length = 8) (hr : r.length = 64) : (hc s r c).toArray.setIfInBounds 72 (.int .u64 ((c' : Nat) : Int)) = (hc s r c').toArray := by
  have e8 : (wv s).length = 8 := by rw [wv_len, hs]
  have e6 : (bv r).length = 64 := by rw [bv_len, hr]
  unfold hc
  rw [List.setIfInBounds_toArray, List.set_append_right _ _ (by omega), List.set_append_right _ _ (by omega), e8, e6]
  rfl
theorem hc_getc {s r : List Nat} {c : Nat} (hs : s.length = 8) (hr : r.length = 64) : (hc s r c).toArray[72]? = some (.int .u64 ((c : Nat) : Int)) := by
  have e8 : (wv s).length = 8 := by rw [wv_len, hs]
  have e6 : (bv r).length = 64 := by rw [bv_len, hr]
  unfold hc
  rw [List.getElem?_toArray, List.getElem?_append_right (by omega), List.getElem?_append_right (by omega), e8, e6]
  rfl
theorem hc_gets {s r : List Nat} {c j : Nat} {v : Value} (h : (wv s)[j]? = some v) : (hc s r c).toArray[j]? = some v := by
  have hj := (List.getElem?_eq_some_iff.1 h).1
  unfold hc
  rw [List.getElem?_toArray, List.getElem?_append_left hj]
  exact h
theorem hc_getr {s r : List Nat} {c j : Nat} (hs : s.length = 8) (hj : j < r.length) : (hc s r c).toArray[8 + j]? = some (.int .u8 ((r.getD j 0 : Nat) : Int)) := by
  have e8 : (wv s).length = 8 := by rw [wv_len, hs]
  unfold hc
  rw [List.getElem?_toArray, List.getElem?_append_right (by omega), e8, List.getElem?_append_left (by rw [bv_len]; omega)]
  have e : 8 + j - 8 = j := by omega
  rw [e]
  exact bv_get hj
theorem bsl_rest {w : World} {g : Nat} {s r : List Nat} {c : Nat} {t : TypeId} (h : w.heap[g]? = some (.cells (hc s r c).toArray t (0, 0))) (hs : s.length = 8) (hr : r.length = 64) (hb : ∀ x ∈ r, x < 256) : BSl w (.slice (some ⟨g, 8, none⟩) 64 64) r := by
  refine ⟨⟨_, 64, by rw [hr], ⟨by omega, fun h => by cases h⟩, .inr ⟨g, 8, rfl, fun j hj => ?_⟩⟩, by omega, hb⟩
  exact blk_cell h (hc_getr hs hj)
end
end Go.Proofs.YtnbbnainmifenaaGreatDoor
