import Derived.Test.YtnkghcndaafmoaaGreatDoorJqj
import Derived.Test.YtnkghcndaafmoaaGreatDoorJqa
import Derived.Deep.RegionLaw
import Derived.Deep.LoopGhost
import Derived.Deep.DeepCutAuto
import Derived.Test.YtnkghcndaafmoaaGreatDoorJqk
namespace Go.Proofs.YtnkghcndaafmoaaGreatDoor
section
open Go.RowKit
set_option maxRecDepth 1000000 in
set_option maxHeartbeats 400000 in
theorem eq_any (w : World) (v1 v2 : Value) (xs ys : List Nat) (h1 : BSl w v1 xs) (h2 : BSl w v2 ys) :
    Calls Tryz.prog 84 #[v1, v2] w fun e w' => e = .returned (.bool (decide (xs = ys))) ∧ Kp (fun _ => False) w w' := by
  have H1 := hide h1
  have H2 := hide h2
  obtain ⟨⟨a1, cap1, rfl, _, hc1⟩, hm1, _⟩ := h1
  obtain ⟨⟨a2, cap2, rfl, _, hc2⟩, hm2, _⟩ := h2
  have HC1 := hide hc1
  have HC2 := hide hc2
  clear hc1 hc2
  by_cases hlen : xs.length = ys.length
  · have hne : ((xs.length : Int) != (ys.length : Int)) = false := by simp [hlen]
    have HLN := hide hlen
    clear hlen
    go_enter Tryz.func84, Tryz.ntmps84
    go_wp2
    go_loopw [5] (fun i wr => ∃ k : Nat, k ≤ xs.length ∧ i = .int .i64 k ∧ Kp (fun _ => False) w wr ∧ xs.take k = ys.take k) (fun i _ => xs.length - (intOf i).toNat)
    case atStart => exact ⟨0, Nat.zero_le _, rfl, Kp.refl _ _, by simp⟩
    case round =>
      obtain ⟨k, hk, rfl, hkp, htk⟩ := hrel
      have HK := hide hkp
      have HTK := hide htk
      clear hkp htk
      by_cases hlt : k < xs.length
      · have hlt' : (k : Int) < (xs.length : Int) := by omega
        have hlty : k < ys.length := by have := HLN.out; omega
        have hlty' : (k : Int) < (ys.length : Int) := by omega
        rcases HC1.out with h | ⟨b1, o1, rfl, hcc1⟩
        · rw [h] at hlt; simp at hlt
        rcases HC2.out with h | ⟨b2, o2, rfl, hcc2⟩
        · rw [h] at hlty; simp at hlty
        have cc1 := HK.out.cell (hcc1 k hlt) (by simp)
        have cc2 := HK.out.cell (hcc2 k hlty) (by simp)
        have hs1 : xs.take (k + 1) = xs.take k ++ [xs.getD k 0] := by rw [List.take_succ_eq_append_getElem hlt]; simp [List.getD, hlt]
        have hs2 : ys.take (k + 1) = ys.take k ++ [ys.getD k 0] := by rw [List.take_succ_eq_append_getElem hlty]; simp [List.getD, hlty]
        have HS1 := hide hs1
        have HS2 := hide hs2
        clear hcc1 hcc2 hs1 hs2
        by_cases hxy : xs.getD k 0 = ys.getD k 0
        · have hxy' : (((xs.getD k 0 : Nat) : Int) != ((ys.getD k 0 : Nat) : Int)) = false := by rw [hxy]; simp
          have HXY := hide hxy
          clear hxy
          generalize xs.getD k 0 = x at *
          generalize ys.getD k 0 = y at *
          go_wp2
          go_quiet (fail)
          go_wp2
          go_roundw
          case rel => exact ⟨k + 1, by omega, by go_num, HK.out.drewN _, by rw [HS1.out, HS2.out, HTK.out, HXY.out]⟩
          case measure => simp [intOf]; omega
        · have hxy' : (((xs.getD k 0 : Nat) : Int) != ((ys.getD k 0 : Nat) : Int)) = true := bne_iff_ne.2 (by omega)
          have hd : decide (xs = ys) = false := decide_eq_false (fun e => hxy (by rw [e]))
          have HD := hide hd
          clear hxy hd
          generalize xs.getD k 0 = x at *
          generalize ys.getD k 0 = y at *
          go_wp2
          go_quiet (fail)
          go_wp2
          go_ret
          exact ⟨by rw [HD.out]; rfl, HK.out.drewN _⟩
      · have hlt' : ¬ (k : Int) < (xs.length : Int) := by omega
        have hd : decide (xs = ys) = true := decide_eq_true (by
          have h := HTK.out
          rw [List.take_of_length_le (by omega), List.take_of_length_le (by have := HLN.out; omega)] at h
          exact h)
        have HD := hide hd
        clear hd
        go_wp2
        go_ret
        exact ⟨by rw [HD.out]; rfl, HK.out⟩
  · have hne : ((xs.length : Int) != (ys.length : Int)) = true := bne_iff_ne.2 (by omega)
    have hd : decide (xs = ys) = false := decide_eq_false (fun e => hlen (by rw [e]))
    rw [hd]
    clear hlen hd
    go_enter Tryz.func84, Tryz.ntmps84
    go_wp2
    go_ret
    exact ⟨rfl, Kp.refl _ _⟩
end
section
open Go.RowKit

end
section
open Go.RowKit
theorem zer_lt (n : Nat) : zer n < 64 := by unfold zer; omega
theorem zer_mod (n : Nat) : (n + 1 + zer n) % 64 = 56 := by unfold zer; omega

theorem beb_get : ∀ k n j, j < k → (beb k n).getD j 0 = n / 256 ^ (k - 1 - j) % 256
  | 0, _, _, h => by omega
  | k + 1, n, 0, _ => by simp [beb]
  | k + 1, n, j + 1, h => by
    have e : k + 1 - 1 - (j + 1) = k - 1 - j := by omega
    rw [e, ← beb_get k n j (by omega)]
    simp [beb]
theorem pow_int8 (k : Nat) : (2 : Int) ^ (8 * k) = ((256 ^ k : Nat) : Int) := by
  rw [Int.pow_mul, Int.natCast_pow]; rfl
theorem take_snoc3 (l : List Nat) (j : Nat) (h : j < l.length) : l.take (j + 1) = l.take j ++ [l.getD j 0] := by
  rw [List.take_succ_eq_append_getElem h]
  simp [List.getD, h]
def lenOf : Value → Nat
  | .slice _ n _ => n
  | _ => 0
theorem own_lenOf {w : World} {base : Nat} {e : TypeId} {v : Value} {n : Nat} {xs : List Value} (h : w.ownsRow base e 1 v n xs) : lenOf v = n := by
  obtain ⟨a, c, rfl, _⟩ := own_form h
  rfl

set_option maxRecDepth 1000000 in
set_option maxHeartbeats 4000000 in
theorem lengthened_any (w : World) (v : Value) (xs : List Nat) (hsl : BSl w v xs) (hlen : xs.length ≤ 140737488351232) :
    Calls Tryz.prog 131 #[v] w fun e w' => ∃ v', e = .returned v' ∧ w'.ownsRow w.heap.size 5 1 v' (pad xs).length (bv (pad xs)) ∧ Below w.heap.size w w' := by
  have HSL := hide hsl
  obtain ⟨⟨a, cap, rfl, hn, hc⟩, hmax, hb⟩ := hsl
  have HBY := hide hb
  clear hn hc hb
  generalize hB : w.heap.size = B at *
  have HB := hide hB
  clear hB
  have HL := hide hlen
  clear hlen
  go_enter Tryz.func131, Tryz.ntmps131
  go_wp2_with (at_builtin; refine append_bsl rfl _ _ rfl B _ 0 [] rfl (World.ownsRow_nil _ _ _ _) _ xs rfl HSL.out ?b1 ?b2 ?_)
  case b1 => have := HL.out; omega
  case b2 => have := HB.out; omega
  intro v1 w1 ho1 hg1
  have hb1 : Below B w w1 := (Below.refl _ _).grown hg1 (by have := HB.out; omega) (fun q hq => by cases hq)
  have HO1 := hide ho1
  have HB1 := hide hb1
  have hs1 : B ≤ w1.heap.size := by have := hb1.size; have := HB.out; omega
  clear ho1 hb1 hg1
  have HS1 := hide (one_bsl w1 128 (by decide))
  have HA1 := hide (HO1.out.alloc (.cells #[.int .u8 128] 5))
  go_wp2_with (at_builtin; refine append_bsl rfl _ _ rfl B _ xs.length xs rfl HA1.out _ [128] rfl HS1.out ?b1 ?b2 ?_)
  case b1 => have := HL.out; simp; omega
  case b2 => simp; omega
  intro v2 w2 ho2 hg2
  have hlo := fun g (h : _ = some g) => (HA1.out.lt g h).1
  have HB2 : Hid (Below B w w2) := (HB1.out.alloc hs1 _).grown hg2 (by simp; omega) (fun g hg => hlo g hg)
  have HO2 := hide ho2
  clear ho2 hg2 hlo HA1 HS1 HO1 HB1 hs1
  go_wp2
  go_loopw [3] (fun u wx => ∃ z : Nat, z ≤ zer xs.length ∧ lenOf u = xs.length + 1 + z ∧ Hid (wx.ownsRow B 5 1 u (xs.length + 1 + z) (bv (xs ++ [128] ++ List.replicate z 0))) ∧ Hid (Below B w wx)) (fun u _ => xs.length + 1 + zer xs.length - lenOf u)
  case atStart => exact ⟨0, Nat.zero_le _, own_lenOf HO2.out, by show World.ownsRow _ _ _ _ _ _ _; simpa using HO2.out, HB2⟩
  case round =>
    obtain ⟨z, hz, hlz, HO, HBL⟩ := hrel
    clear HO2 HB2
    obtain ⟨au, cu, hv, hv1, hv2, hv3⟩ := own_form HO.out
    subst hv
    clear hv1 hv2 hv3
    have hzl := zer_lt xs.length
    have hzm := zer_mod xs.length
    have hs3 : B ≤ wr.heap.size := by have := HBL.out.size; have := HB.out; omega
    by_cases hlt : z < zer xs.length
    · have hne : (((xs.length : Int) + 1 + (z : Int)) % 64 != 56) = true := bne_iff_ne.2 (by omega)
      have HS1 := hide (one_bsl wr 0 (by decide))
      have HA1 := hide (HO.out.alloc (.cells #[.int .u8 0] 5))
      go_wp2_with (at_builtin; refine append_bsl rfl _ _ rfl B _ (xs.length + 1 + z) _ rfl HA1.out _ [0] rfl HS1.out ?b1 ?b2 ?_)
      case b1 => have := HL.out; simp; omega
      case b2 => simp; omega
      intro v3 w3 ho3 hg3
      have hlo := fun g (h : _ = some g) => (HA1.out.lt g h).1
      have HB3 : Hid (Below B w w3) := (HBL.out.alloc hs3 _).grown hg3 (by simp; omega) (fun g hg => hlo g hg)
      have HO3 : Hid (w3.ownsRow B 5 1 v3 (xs.length + 1 + (z + 1)) (bv (xs ++ [128] ++ List.replicate (z + 1) 0))) := by
        show World.ownsRow _ _ _ _ _ _ _
        have h := ho3
        rw [List.replicate_succ']
        simpa [Nat.add_assoc] using h
      clear ho3 hg3 hlo HA1 HS1
      obtain ⟨a3, c3, hv3, hv1, hv2, hv4⟩ := own_form HO3.out
      subst hv3
      clear hv1 hv2 hv4
      go_wp2
      go_roundw
      case rel => exact ⟨z + 1, by omega, rfl, HO3, HB3⟩
      case measure => simp [lenOf]; omega
    · have hzz : z = zer xs.length := by omega
      have hne : (((xs.length : Int) + 1 + (z : Int)) % 64 != 56) = false := bne_eq_false_iff_eq.2 (by omega)
      subst hzz
      have HPD : Hid (pad xs = xs ++ [128] ++ List.replicate (zer xs.length) 0 ++ beb 8 (8 * xs.length)) := rfl
      have hPL : (xs ++ [128] ++ List.replicate (zer xs.length) 0).length = xs.length + 1 + zer xs.length := by simp; omega
      have HPL := hide hPL
      clear hPL
      generalize xs ++ [128] ++ List.replicate (zer xs.length) 0 = D at *
      have hL9 : xs.length + 1 + zer xs.length ≤ 140737488352232 := by have := HL.out; omega
      have HL9 := hide hL9
      clear hL9
      generalize xs.length + 1 + zer xs.length = L at *
      have hl8 : xs.length ≤ 140737488351232 := HL.out
      have hneL : ((L : Int) % 64 != 56) = false := bne_eq_false_iff_eq.2 (by omega)
      go_wp2
      clear hne hl8
      have HN8 : Hid (8 * xs.length < 9223372036854775808) := by have := HL.out; show _ < _; omega
      have hNN : 8 * (xs.length : Int) = ((8 * xs.length : Nat) : Int) := by omega
      rw [hNN]
      clear hNN
      generalize 8 * xs.length = N at *
      go_loopw [3, 5] (fun u q wx => ∃ j : Nat, j ≤ 8 ∧ q = .int .i64 (7 - (j : Int)) ∧ Hid (wx.ownsRow B 5 1 u (L + j) (bv (D ++ (beb 8 N).take j))) ∧ Hid (Below B w wx)) (fun _ q _ => (intOf q + 1).toNat)
      case atStart => exact ⟨0, by omega, by simp, by show World.ownsRow _ _ _ _ _ _ _; simpa using HO.out, HBL⟩
      case round =>
        obtain ⟨j, hj, rfl, HO4, HBL4⟩ := hrel
        clear HO HBL
        rename World => wz
        have hs4 : B ≤ wz.heap.size := by have := HBL4.out.size; have := HB.out; omega
        by_cases hlt2 : j < 8
        · have hlt2' : (0 : Int) ≤ 7 - (j : Int) := by omega
          have hidx : (7 - (j : Int)) = ((7 - j : Nat) : Int) := by omega
          rw [hidx]
          have hq8 : 7 - j < 8 := by omega
          have HTK : Hid ((beb 8 N).take (j + 1) = (beb 8 N).take j ++ [N / 256 ^ (7 - j) % 256]) := by
            show _ = _
            rw [← beb_get 8 N j hlt2]
            exact take_snoc3 _ _ (by rw [beb_len]; exact hlt2)
          have HID : Hid (((7 - j : Nat) : Int) - 1 = 7 - ((j + 1 : Nat) : Int)) := by show _ = _; omega
          generalize 7 - j = q at *
          clear hidx hlt2'
          have hc : ((N / 256 ^ q % 256 : Nat) : Int) = (N : Int) / 2 ^ (8 * q) % 256 := by rw [pow_int8]; omega
          have HS1 := hide (one_bsl wz (N / 256 ^ q % 256) (Nat.mod_lt _ (by decide)))
          rw [hc] at HS1
          have HA1 := hide (HO4.out.alloc (.cells #[.int .u8 ((N : Int) / 2 ^ (8 * q) % 256)] 5))
          clear hc HO4
          have hn8 : N < 9223372036854775808 := HN8.out
          go_wp2_with (at_builtin; refine append_bsl rfl _ _ rfl B _ (L + j) _ rfl HA1.out _ [N / 256 ^ q % 256] rfl HS1.out ?b1 ?b2 ?_)
          case b1 => have := HL9.out; simp; omega
          case b2 => simp; omega
          intro v5 w5 ho5 hg5
          have hlo := fun g (h : _ = some g) => (HA1.out.lt g h).1
          have HB5 : Hid (Below B w w5) := (HBL4.out.alloc hs4 _).grown hg5 (by simp; omega) (fun g hg => hlo g hg)
          have HO5 : Hid (w5.ownsRow B 5 1 v5 (L + (j + 1)) (bv (D ++ (beb 8 N).take (j + 1)))) := by
            show World.ownsRow _ _ _ _ _ _ _
            rw [HTK.out]
            have h := ho5
            simpa [Nat.add_assoc] using h
          clear ho5 hg5 hlo HA1 HS1 HTK
          go_wp2
          go_roundw
          case rel => exact ⟨j + 1, by omega, by rw [← HID.out], HO5, HB5⟩
          case measure => simp [intOf]
        · have hj8 : j = 8 := by omega
          subst hj8
          have ho := HO4.out
          rw [List.take_of_length_le (by rw [beb_len]; exact Nat.le_refl _), ← HPD.out] at ho
          have HO6 := hide ho
          clear ho HO4
          go_wp2
          go_ret
          have e : (pad xs).length = L + 8 := by rw [HPD.out, List.length_append, beb_len, HPL.out]
          rw [e]
          exact ⟨_, rfl, HO6.out, HBL4.out⟩
end
section
open Go.RowKit
set_option maxRecDepth 1000000 in
set_option maxHeartbeats 4000000 in
theorem refFirst_any (w : World) : Calls Tryz.prog 130 #[] w fun e w' => e = .returned (.agg (wv hh).toArray) ∧ Below w.heap.size w w' := by
  go_enter Tryz.func130, Tryz.ntmps130
  go_wp2
  refine bodyPost_ret (v := .agg #[.int .u32 1779033703, .int .u32 3144134277, .int .u32 1013904242, .int .u32 2773480762, .int .u32 1359893119, .int .u32 2600822924, .int .u32 528734635, .int .u32 1541459225]) ((results_one (p := 0) (ty := 182) rfl _ _ _).trans (by go_simp; first | done | rfl)) rfl ⟨by kernel_rfl, ?_⟩
  exact (Below.refl _ _).alloc (Nat.le_refl _) _

theorem pad_len (b : List Nat) : (pad b).length = b.length + 1 + zer b.length + 8 := by simp [pad, beb_len]; omega
theorem pad_mod (b : List Nat) : (pad b).length % 64 = 0 := by rw [pad_len]; have := zer_mod b.length; omega
theorem pad_byte (b : List Nat) (h : ∀ x ∈ b, x < 256) : ∀ x ∈ pad b, x < 256 := by
  intro x hx
  unfold pad at hx
  rcases List.mem_append.1 hx with hx | hx
  · rcases List.mem_append.1 hx with hx | hx
    · rcases List.mem_append.1 hx with hx | hx
      · exact h x hx
      · simp at hx; omega
    · have := List.eq_of_mem_replicate hx; omega
  · exact beb_byte _ _ _ hx
theorem cmp_lt (b : List Nat) (p : Nat) (s : List Nat) : ∀ x ∈ cmp b p s, x < 4294967296 := by
  intro x hx
  unfold cmp at hx
  obtain ⟨i, hi, e⟩ := List.mem_iff_getElem.1 hx
  rw [List.getElem_zipWith] at e
  rw [← e]
  exact Nat.mod_lt _ (by decide)
theorem abs_lt (b s : List Nat) (h : ∀ x ∈ s, x < 4294967296) : ∀ n, ∀ x ∈ abs b s n, x < 4294967296
  | 0, x, hx => h x hx
  | _ + 1, x, hx => cmp_lt _ _ _ x hx
theorem hh_lt : ∀ x ∈ hh, x < 4294967296 := by decide

theorem row_same {w : World} {g : Nat} {old cs : Array Value} {t : TypeId} (h : w.heap[g]? = some (.cells old t (0, 0))) : (w.setRow g cs).heap[g]? = some (.cells cs t (0, 0)) := by
  simp [World.setRow, Array.getElem?_modify, h]
theorem row_other {w : World} {g k : Nat} {cs : Array Value} (h : k ≠ g) : (w.setRow g cs).heap[k]? = w.heap[k]? := by
  have h' : ¬ g = k := fun e => h e.symm
  simp [World.setRow, Array.getElem?_modify, h']
theorem row_kp (w : World) (g : Nat) (cs : Array Value) : Kp (fun q => q = g) w (w.setRow g cs) :=
  ⟨rfl, rfl, rfl, by simp [World.setRow], fun _ _ h => row_other h⟩
theorem row_store {w : World} {g : Nat} {old cs : Array Value} {t : TypeId} (h : w.heap[g]? = some (.cells old t (0, 0))) (hn : cs.size = old.size) (h1 : ∀ v ∈ cs.toList, v.oneCell' = true) : Sem.run Tryz.prog (storeCells ⟨g, 0, none⟩ cs.toList) w = .ok () (w.setRow g cs) := by
  have := run_storeCells_from (P := Tryz.prog) g t cs.toList 0 old w h (by simp; omega) h1
  simpa using this
theorem wpList_loadRow {ops : Array Oper} {rest : List Oper} {o : Oper} {a : Act} {Q : Exit → Act → World → Prop} {w : World} {T e : TypeId} {p : Operand} (hgd : o.guard = none) (ho : o.op = .load T p) (g n : Nat) (cs : Array Value) (t : TypeId)
    (hp : a.eval p = .pointer (some ⟨g, 0, none⟩)) (hg : w.heap[g]? = some (.cells cs t (0, 0))) (hu : Tryz.prog.underlying T = some (.array n e)) (hi : (Tryz.prog.info? T).map (·.size) = some cs.size)
    (h : wpList Tryz.prog ops Q rest (a.put o.dst (.agg cs)) w) : wpList Tryz.prog ops Q (o :: rest) a w := by
  refine wpList_plain hgd fun K hK => ?_
  unfold Oper.wp execOp
  have hr : (Instr.loadAt T (.pointer (some ⟨g, 0, none⟩))).run Tryz.prog w = .ok (.agg cs) w := by
    simp only [Instr.loadAt, Instr.sureAddr, Sem.run_bind, Sem.run_pure, Result.andThen]
    exact run_loadVar_row (P := Tryz.prog) w g t T cs (0, 0) _ hg hu rfl hi
  simp only [ho, Sem.run_bind, hp, hr, Result.andThen_ok]
  exact hK _ _ h
theorem wpList_storeRow {ops : Array Oper} {rest : List Oper} {o : Oper} {a : Act} {Q : Exit → Act → World → Prop} {w : World} {T : TypeId} {p x : Operand} (hgd : o.guard = none) (ho : o.op = .store T p x) (g : Nat) (old cs : Array Value) (t : TypeId)
    (hp : a.eval p = .pointer (some ⟨g, 0, none⟩)) (hx : a.eval x = .agg cs) (hg : w.heap[g]? = some (.cells old t (0, 0))) (hi : (Tryz.prog.info? T).map (·.size) = some cs.size) (hn : old.size = cs.size) (h1 : cs.all (·.oneCell') = true)
    (h : wpList Tryz.prog ops Q rest (a.put o.dst undef) (w.setRow g cs)) : wpList Tryz.prog ops Q (o :: rest) a w := by
  refine wpList_plain hgd fun K hK => ?_
  unfold Oper.wp execOp
  have hr : (Instr.storeAt T (.pointer (some ⟨g, 0, none⟩)) (.agg cs)).run Tryz.prog w = .ok () (w.setRow g cs) := by
    simp only [Instr.storeAt, Instr.sureAddr, Sem.run_bind, Sem.run_pure, Result.andThen]
    exact run_storeVar_row (P := Tryz.prog) w g t T old cs hg hi hn h1
  simp only [ho, Sem.run_bind, hp, hx, hr, Result.andThen_ok]
  exact hK _ _ h
theorem wv_one (l : List Nat) : ∀ v ∈ wv l, v.oneCell' = true := by
  intro v hv
  simp [wv] at hv
  obtain ⟨x, _, rfl⟩ := hv
  rfl
theorem z32_lit : (bv (List.replicate 32 0)).toArray = #[.int .u8 0, .int .u8 0, .int .u8 0, .int .u8 0, .int .u8 0, .int .u8 0, .int .u8 0, .int .u8 0, .int .u8 0, .int .u8 0, .int .u8 0, .int .u8 0, .int .u8 0, .int .u8 0, .int .u8 0, .int .u8 0, .int .u8 0, .int .u8 0, .int .u8 0, .int .u8 0, .int .u8 0, .int .u8 0, .int .u8 0, .int .u8 0, .int .u8 0, .int .u8 0, .int .u8 0, .int .u8 0, .int .u8 0, .int .u8 0, .int .u8 0, .int .u8 0] := by kernel_rfl
theorem info8 : (Tryz.prog.info? 182).map (·.size) = some (wv hh).toArray.size := by kernel_rfl
theorem info32 : (Tryz.prog.info? 155).map (·.size) = some 32 := by kernel_rfl
theorem store_hh (w : World) : Sem.run Tryz.prog (storeCells ⟨w.heap.size, 0, none⟩ (wv hh)) (w.alloc (.cells #[.int .u32 0, .int .u32 0, .int .u32 0, .int .u32 0, .int .u32 0, .int .u32 0, .int .u32 0, .int .u32 0] 182)) = .ok () (w.alloc (.cells (wv hh).toArray 182)) := by
  have h := run_storeCells_new (P := Tryz.prog) w 182 #[.int .u32 0, .int .u32 0, .int .u32 0, .int .u32 0, .int .u32 0, .int .u32 0, .int .u32 0, .int .u32 0] (wv hh).toArray info8 (by kernel_rfl) (by kernel_rfl)
  exact h

theorem outb_len (s : List Nat) (h : s.length = 8) : (outb s).length = 32 := by
  match s, h with
  | [_, _, _, _, _, _, _, _], _ => rfl
theorem out_set (l : List Nat) (hl : l.length = 32) (j : Nat) (hj : j < 32) : (bv (l.take j ++ List.replicate (32 - j) 0)).toArray.setIfInBounds j (.int .u8 ((l.getD j 0 : Nat) : Int)) = (bv (l.take (j + 1) ++ List.replicate (32 - (j + 1)) 0)).toArray := by
  have e : 32 - j = (32 - (j + 1)) + 1 := by omega
  rw [List.setIfInBounds_toArray, e, List.replicate_succ, take_snoc3 l j (by omega)]
  congr 1
  simp only [bv, List.map_append, List.map_cons]
  rw [List.set_append_right _ _ (by simp [hl]; omega)]
  simp [hl, Nat.min_eq_left (Nat.le_of_lt hj)]
theorem outb_byte (s : List Nat) : ∀ x ∈ outb s, x < 256 := by
  intro x hx
  unfold outb at hx
  obtain ⟨y, _, hy⟩ := List.mem_flatMap.1 hx
  exact beb_byte _ _ _ hy
theorem outb_get (s : List Nat) (h : s.length = 8) (j : Nat) (hj : j < 32) : (outb s).getD j 0 = s.getD (j / 4) 0 / 256 ^ (3 - j % 4) % 256 := by
  match s, h with
  | [_, _, _, _, _, _, _, _], _ =>
    rcases (by omega : j = 0 ∨ j = 1 ∨ j = 2 ∨ j = 3 ∨ j = 4 ∨ j = 5 ∨ j = 6 ∨ j = 7 ∨ j = 8 ∨ j = 9 ∨ j = 10 ∨ j = 11 ∨ j = 12 ∨ j = 13 ∨ j = 14 ∨ j = 15 ∨ j = 16 ∨ j = 17 ∨ j = 18 ∨ j = 19 ∨ j = 20 ∨ j = 21 ∨ j = 22 ∨ j = 23 ∨ j = 24 ∨ j = 25 ∨ j = 26 ∨ j = 27 ∨ j = 28 ∨ j = 29 ∨ j = 30 ∨ j = 31) with rfl | rfl | rfl | rfl | rfl | rfl | rfl | rfl | rfl | rfl | rfl | rfl | rfl | rfl | rfl | rfl | rfl | rfl | rfl | rfl | rfl | rfl | rfl | rfl | rfl | rfl | rfl | rfl | rfl | rfl | rfl | rfl <;> rfl

set_option maxRecDepth 1000000 in
set_option maxHeartbeats 4000000 in
theorem refSum_any (w : World) (v : Value) (xs : List Nat) (hsl : BSl w v xs) (hlen : xs.length ≤ 140737488351232) :
    Calls Tryz.prog 70 #[v] w fun e w' => e = .returned (.agg (bv (sha xs)).toArray) ∧ Below w.heap.size w w' := by
  have HSL := hide hsl
  have HL := hide hlen
  clear hsl hlen
  have HR0 : Hid ((w.alloc (.cells #[.int .u8 0, .int .u8 0, .int .u8 0, .int .u8 0, .int .u8 0, .int .u8 0, .int .u8 0, .int .u8 0, .int .u8 0, .int .u8 0, .int .u8 0, .int .u8 0, .int .u8 0, .int .u8 0, .int .u8 0, .int .u8 0, .int .u8 0, .int .u8 0, .int .u8 0, .int .u8 0, .int .u8 0, .int .u8 0, .int .u8 0, .int .u8 0, .int .u8 0, .int .u8 0, .int .u8 0, .int .u8 0, .int .u8 0, .int .u8 0, .int .u8 0, .int .u8 0] 155)).heap[w.heap.size]? = some (.cells (bv (List.replicate 32 0)).toArray 155 (0, 0))) := by
    rw [← z32_lit]; exact heap_alloc_new w _
  have HB0 : Hid (Below w.heap.size w (w.alloc (.cells #[.int .u8 0, .int .u8 0, .int .u8 0, .int .u8 0, .int .u8 0, .int .u8 0, .int .u8 0, .int .u8 0, .int .u8 0, .int .u8 0, .int .u8 0, .int .u8 0, .int .u8 0, .int .u8 0, .int .u8 0, .int .u8 0, .int .u8 0, .int .u8 0, .int .u8 0, .int .u8 0, .int .u8 0, .int .u8 0, .int .u8 0, .int .u8 0, .int .u8 0, .int .u8 0, .int .u8 0, .int .u8 0, .int .u8 0, .int .u8 0, .int .u8 0, .int .u8 0] 155))) := (Below.refl _ _).alloc (Nat.le_refl _) _
  go_enter Tryz.func70, Tryz.ntmps70
  go_wp2_with fail
  generalize w.alloc (.cells #[.int .u8 0, .int .u8 0, .int .u8 0, .int .u8 0, .int .u8 0, .int .u8 0, .int .u8 0, .int .u8 0, .int .u8 0, .int .u8 0, .int .u8 0, .int .u8 0, .int .u8 0, .int .u8 0, .int .u8 0, .int .u8 0, .int .u8 0, .int .u8 0, .int .u8 0, .int .u8 0, .int .u8 0, .int .u8 0, .int .u8 0, .int .u8 0, .int .u8 0, .int .u8 0, .int .u8 0, .int .u8 0, .int .u8 0, .int .u8 0, .int .u8 0, .int .u8 0] 155) = w0 at *
  refine (refFirst_any _).mono ?_
  rintro e w1 ⟨rfl, hb1⟩
  generalize hRR : w.heap.size = R at *
  have HRR := hide hRR
  clear hRR
  have HR1 := hide ((hb1.block R (blk_lt HR0.out)).trans HR0.out)
  have HB1 : Hid (Below R w w1) := HB0.out.trans (hb1.mono (by have := HB0.out.size; have := HRR.out; omega))
  clear hb1 HR0 HB0
  have hst := store_hh w1
  have hhl : (wv hh).length = 8 := by kernel_rfl
  go_wp2_with fail
  have HS2 : Hid ((w1.alloc (.cells (wv hh).toArray 182)).heap[w1.heap.size]? = some (.cells (wv hh).toArray 182 (0, 0))) := heap_alloc_new w1 _
  have HR2 := hide (blk_alloc (.cells (wv hh).toArray 182) HR1.out)
  have hRS : R < w1.heap.size := blk_lt HR1.out
  have HB2 : Hid (Below R w (w1.alloc (.cells (wv hh).toArray 182))) := HB1.out.alloc (by omega) _
  clear hst hhl
  generalize w1.alloc (.cells (wv hh).toArray 182) = w2 at *
  generalize w1.heap.size = S at *
  refine (lengthened_any _ v xs (HSL.out.move (keep_below (by rw [HRR.out]; exact HB2.out))) HL.out).mono ?_
  rintro e w3 ⟨vl, rfl, ho3, hb3⟩
  have HP3 := hide (BSl.own ho3 (pad_byte xs HSL.out.byte))
  have HPO : Hid (∀ q, vl.ownBlock = some q → w2.heap.size ≤ q) := fun q hq => (ho3.lt q hq).1
  have HS3 := hide ((hb3.block S (blk_lt HS2.out)).trans HS2.out)
  have HR3 := hide ((hb3.block R (blk_lt HR2.out)).trans HR2.out)
  have HB3 : Hid (Below R w w3) := HB2.out.trans (hb3.mono (by have := HB2.out.size; have := HRR.out; omega))
  have HS2l : Hid (S < w2.heap.size) := blk_lt HS2.out
  have HZ3 : Hid (w2.heap.size ≤ w3.heap.size) := hb3.size
  obtain ⟨al, cl, hv, hv1, hv2, hv3⟩ := own_form ho3
  subst hv
  clear ho3 hb3 hv1 hv2 hv3 HS2 HR2 HB2 HR1 HB1
  have hpm := pad_mod xs
  have hpl := pad_len xs
  have hpx : (pad xs).length ≤ 140737488355328 := by have := HL.out; have := zer_lt xs.length; omega
  have HPX := hide hpx
  have HSH : Hid (sha xs = outb (abs (pad xs) hh ((pad xs).length / 64))) := rfl
  clear hpl hpx
  generalize pad xs = PP at *
  go_wp2
  go_loopw [5] (fun aa wx => ∃ n : Nat, 64 * n ≤ PP.length ∧ aa = .int .i64 (64 * (n : Int)) ∧ Hid (wx.heap[S]? = some (.cells (wv (abs PP hh n)).toArray 182 (0, 0))) ∧ Hid (wx.heap[R]? = some (.cells (bv (List.replicate 32 0)).toArray 155 (0, 0))) ∧ Hid (BSl wx (.slice al PP.length cl) PP) ∧ Hid (Below R w wx) ∧ Hid (w2.heap.size ≤ wx.heap.size)) (fun aa _ => PP.length - (intOf aa).toNat)
  case atStart => exact ⟨0, by omega, by simp, HS3, HR3, HP3, HB3, HZ3⟩
  case round =>
    obtain ⟨n, hn, rfl, HS4, HR4, HP4, HB4, HZ4⟩ := hrel
    clear HS3 HR3 HP3 HB3 HZ3
    have HAL := hide (abs_len PP hh rfl n)
    by_cases hlt : 64 * n < PP.length
    · have hlt' : 64 * (n : Int) < (PP.length : Int) := by omega
      have HAB := hide (abs_lt PP hh hh_lt n)
      have HST : Hid (abs PP hh (n + 1) = cmp PP (64 * n) (abs PP hh n)) := rfl
      have HCL := hide (cmp_len PP (64 * n) (abs PP hh n) HAL.out)
      obtain ⟨a0, a1, a2, a3, a4, a5, a6, a7, haa⟩ := eight (abs PP hh n) HAL.out
      have q0 : wr.cell? ⟨S, 0, none⟩ = some (.int .u32 (a0 : Nat)) := blk_cell HS4.out (by rw [haa]; rfl)
      have q1 : wr.cell? ⟨S, 1, none⟩ = some (.int .u32 (a1 : Nat)) := blk_cell HS4.out (by rw [haa]; rfl)
      have q2 : wr.cell? ⟨S, 2, none⟩ = some (.int .u32 (a2 : Nat)) := blk_cell HS4.out (by rw [haa]; rfl)
      have q3 : wr.cell? ⟨S, 3, none⟩ = some (.int .u32 (a3 : Nat)) := blk_cell HS4.out (by rw [haa]; rfl)
      have q4 : wr.cell? ⟨S, 4, none⟩ = some (.int .u32 (a4 : Nat)) := blk_cell HS4.out (by rw [haa]; rfl)
      have q5 : wr.cell? ⟨S, 5, none⟩ = some (.int .u32 (a5 : Nat)) := blk_cell HS4.out (by rw [haa]; rfl)
      have q6 : wr.cell? ⟨S, 6, none⟩ = some (.int .u32 (a6 : Nat)) := blk_cell HS4.out (by rw [haa]; rfl)
      have q7 : wr.cell? ⟨S, 7, none⟩ = some (.int .u32 (a7 : Nat)) := blk_cell HS4.out (by rw [haa]; rfl)
      have HAA := hide haa
      clear haa
      go_wp2_with fail
      have hat : 64 * (n : Int) = ((64 * n : Nat) : Int) := by omega
      rw [hat]
      have hlit : #[Value.int .u32 (a0 : Nat), .int .u32 (a1 : Nat), .int .u32 (a2 : Nat), .int .u32 (a3 : Nat), .int .u32 (a4 : Nat), .int .u32 (a5 : Nat), .int .u32 (a6 : Nat), .int .u32 (a7 : Nat)] = (wv (abs PP hh n)).toArray := by rw [HAA.out]; rfl
      rw [hlit]
      clear hat hlit q0 q1 q2 q3 q4 q5 q6 q7
      refine (refRounds_any _ _ PP (abs PP hh n) (64 * n) HP4.out (by omega) HAL.out HAB.out).mono ?_
      rintro e w5 ⟨rfl, hb5⟩
      have HS5 := hide ((hb5.block S (blk_lt HS4.out)).trans HS4.out)
      have HR5 := hide ((hb5.block R (blk_lt HR4.out)).trans HR4.out)
      have HP5 := hide (HP4.out.move (keep_below hb5))
      have HB5 : Hid (Below R w w5) := HB4.out.trans (hb5.mono (by have := HB4.out.size; have := HRR.out; omega))
      have HZ5 : Hid (w2.heap.size ≤ w5.heap.size) := Nat.le_trans HZ4.out hb5.size
      clear hb5
      rw [← HST.out]
      have HCL' : Hid ((abs PP hh (n + 1)).length = 8) := abs_len PP hh rfl (n + 1)
      have hst : Sem.run Tryz.prog (storeCells ⟨S, 0, none⟩ (wv (abs PP hh (n + 1)))) w5 = .ok () (w5.setRow S (wv (abs PP hh (n + 1))).toArray) := row_store HS5.out (by simp [wv_len, HCL'.out, HAL.out]) (fun u hu => wv_one (abs PP hh (n + 1)) u hu)
      have hsl8 : (wv (abs PP hh (n + 1))).length = 8 := by rw [wv_len, HCL'.out]
      have hpx := HPX.out
      go_wp2
      go_roundw
      case rel =>
        refine ⟨n + 1, by omega, by go_num, row_same HS5.out, (row_other (by omega)).trans HR5.out, (row_kp w5 S _).bsl HP5.out (fun q hq e => ?_), ?_, by have := HZ5.out; show _ ≤ _; simpa [World.setRow] using this⟩
        · have := HPO.out q hq; have := HS2l.out; omega
        · exact HB5.out.trans ((row_kp w5 S _).below (by have := HB5.out.size; have := HRR.out; omega) (fun q e => by omega))
      case measure => simp [intOf]; omega
    · have hnn : n = PP.length / 64 := by omega
      have hlt' : ¬ 64 * (n : Int) < (PP.length : Int) := by omega
      rw [← hnn] at HSH
      clear hnn
      have HAB := hide (abs_lt PP hh hh_lt n)
      have HO5 : Hid ((wr.alloc (.cells #[.int .u8 0, .int .u8 0, .int .u8 0, .int .u8 0, .int .u8 0, .int .u8 0, .int .u8 0, .int .u8 0, .int .u8 0, .int .u8 0, .int .u8 0, .int .u8 0, .int .u8 0, .int .u8 0, .int .u8 0, .int .u8 0, .int .u8 0, .int .u8 0, .int .u8 0, .int .u8 0, .int .u8 0, .int .u8 0, .int .u8 0, .int .u8 0, .int .u8 0, .int .u8 0, .int .u8 0, .int .u8 0, .int .u8 0, .int .u8 0, .int .u8 0, .int .u8 0] 155)).heap[wr.heap.size]? = some (.cells (bv (List.replicate 32 0)).toArray 155 (0, 0))) := by
        rw [← z32_lit]; exact heap_alloc_new wr _
      have HS5 := hide (blk_alloc (.cells #[.int .u8 0, .int .u8 0, .int .u8 0, .int .u8 0, .int .u8 0, .int .u8 0, .int .u8 0, .int .u8 0, .int .u8 0, .int .u8 0, .int .u8 0, .int .u8 0, .int .u8 0, .int .u8 0, .int .u8 0, .int .u8 0, .int .u8 0, .int .u8 0, .int .u8 0, .int .u8 0, .int .u8 0, .int .u8 0, .int .u8 0, .int .u8 0, .int .u8 0, .int .u8 0, .int .u8 0, .int .u8 0, .int .u8 0, .int .u8 0, .int .u8 0, .int .u8 0] 155) HS4.out)
      have HR5 := hide (blk_alloc (.cells #[.int .u8 0, .int .u8 0, .int .u8 0, .int .u8 0, .int .u8 0, .int .u8 0, .int .u8 0, .int .u8 0, .int .u8 0, .int .u8 0, .int .u8 0, .int .u8 0, .int .u8 0, .int .u8 0, .int .u8 0, .int .u8 0, .int .u8 0, .int .u8 0, .int .u8 0, .int .u8 0, .int .u8 0, .int .u8 0, .int .u8 0, .int .u8 0, .int .u8 0, .int .u8 0, .int .u8 0, .int .u8 0, .int .u8 0, .int .u8 0, .int .u8 0, .int .u8 0] 155) HR4.out)
      have HB5 : Hid (Below R w (wr.alloc (.cells #[.int .u8 0, .int .u8 0, .int .u8 0, .int .u8 0, .int .u8 0, .int .u8 0, .int .u8 0, .int .u8 0, .int .u8 0, .int .u8 0, .int .u8 0, .int .u8 0, .int .u8 0, .int .u8 0, .int .u8 0, .int .u8 0, .int .u8 0, .int .u8 0, .int .u8 0, .int .u8 0, .int .u8 0, .int .u8 0, .int .u8 0, .int .u8 0, .int .u8 0, .int .u8 0, .int .u8 0, .int .u8 0, .int .u8 0, .int .u8 0, .int .u8 0, .int .u8 0] 155))) := HB4.out.alloc (by have := HB4.out.size; have := HRR.out; omega) _
      have hSO : S < wr.heap.size := blk_lt HS4.out
      go_wp2
      generalize wr.alloc (.cells #[.int .u8 0, .int .u8 0, .int .u8 0, .int .u8 0, .int .u8 0, .int .u8 0, .int .u8 0, .int .u8 0, .int .u8 0, .int .u8 0, .int .u8 0, .int .u8 0, .int .u8 0, .int .u8 0, .int .u8 0, .int .u8 0, .int .u8 0, .int .u8 0, .int .u8 0, .int .u8 0, .int .u8 0, .int .u8 0, .int .u8 0, .int .u8 0, .int .u8 0, .int .u8 0, .int .u8 0, .int .u8 0, .int .u8 0, .int .u8 0, .int .u8 0, .int .u8 0] 155) = w6 at *
      generalize wr.heap.size = O at *
      have HOL := hide (outb_len (abs PP hh n) HAL.out)
      have HOB := hide (outb_byte (abs PP hh n))
      go_loopw [7] (fun ii wx => ∃ j : Nat, j ≤ 32 ∧ ii = .int .i64 (j : Nat) ∧ Hid (wx.heap[O]? = some (.cells (bv ((outb (abs PP hh n)).take j ++ List.replicate (32 - j) 0)).toArray 155 (0, 0))) ∧ Hid (wx.heap[S]? = some (.cells (wv (abs PP hh n)).toArray 182 (0, 0))) ∧ Hid (wx.heap[R]? = some (.cells (bv (List.replicate 32 0)).toArray 155 (0, 0))) ∧ Hid (Below R w wx)) (fun ii _ => 32 - (intOf ii).toNat)
      case atStart => exact ⟨0, by omega, rfl, HO5, HS5, HR5, HB5⟩
      case round =>
        obtain ⟨j, hj, rfl, HO7, HS7, HR7, HB7⟩ := hrel
        clear HO5 HS5 HR5 HB5 HS4 HR4 HB4 HZ4 HP4
        rename World => wz
        by_cases hj32 : j < 32
        · have hj32' : (j : Int) < 32 := by omega
          have c1 : wz.cell? ⟨S, j / 4, none⟩ = some (.int .u32 (((abs PP hh n).getD (j / 4) 0 : Nat) : Int)) := blk_cell HS7.out (wvt_get (by rw [HAL.out]; omega))
          have hA := getD_w HAB.out (j / 4)
          have HBL : Hid ((bv ((outb (abs PP hh n)).take j ++ List.replicate (32 - j) 0)).length = 32) := by show _ = _; simp [bv, HOL.out]; omega
          have c2 : wz.cell? ⟨O, j, none⟩ = some (.int .u8 ((((outb (abs PP hh n)).take j ++ List.replicate (32 - j) 0).getD j 0 : Nat) : Int)) := blk_cell HO7.out (by rw [List.getElem?_toArray]; exact bv_get (by simpa [bv] using (by rw [HBL.out]; exact hj32 : j < (bv ((outb (abs PP hh n)).take j ++ List.replicate (32 - j) 0)).length)))
          have f2 := blk_frozen j HO7.out
          have HBS := hide (out_set (outb (abs PP hh n)) HOL.out j hj32)
          have HOG := hide (outb_get (abs PP hh n) HAL.out j hj32)
          generalize (abs PP hh n).getD (j / 4) 0 = A at *
          generalize ((outb (abs PP hh n)).take j ++ List.replicate (32 - j) 0).getD j 0 = o at *
          have hOS : ¬ O = S := by omega
          have hOR : ¬ O = R := by omega
          go_wp2
          go_roundw
          case rel =>
            have ea : (A : Int) / 2 ^ (24 - 8 * (j % 4)) % 256 = (((outb (abs PP hh n)).getD j 0 : Nat) : Int) := by
              rw [HOG.out]
              have e : (2 : Int) ^ (24 - 8 * (j % 4)) = ((256 ^ (3 - j % 4) : Nat) : Int) := by
                rw [← pow_int8]
                congr 1
                omega
              rw [e]
              omega
            rw [ea]
            refine ⟨j + 1, by omega, by go_num, ?_, blk_other j _ HS7.out (fun e => hOS e.symm), blk_other j _ HR7.out (fun e => hOR e.symm), below_set3 HB7.out _ _ (by omega) _⟩
            show _ = _
            rw [← HBS.out]
            exact blk_set j _ HO7.out
          case measure => simp [intOf]; omega
        · have hj2 : j = 32 := by omega
          have hj32' : ¬ (j : Int) < 32 := by omega
          have HOF : Hid (wz.heap[O]? = some (.cells (bv (outb (abs PP hh n))).toArray 155 (0, 0))) := by
            have h := HO7.out
            rw [hj2, List.take_of_length_le (by rw [HOL.out]; exact Nat.le_refl _)] at h
            show _ = _
            simpa using h
          clear hj2 HO7
          have HI32 : Hid ((Tryz.prog.info? 155).map (·.size) = some (bv (outb (abs PP hh n))).toArray.size) := by
            have h := info32
            show _ = _
            simpa [bv_len, HOL.out] using h
          have HSZ : Hid ((bv (List.replicate 32 0)).toArray.size = (bv (outb (abs PP hh n))).toArray.size) := by show _ = _; simp [bv_len, HOL.out]
          have HON : Hid ((bv (outb (abs PP hh n))).toArray.all (·.oneCell') = true) := by
            show _ = _
            rw [Array.all_eq_true_iff_forall_mem]
            intro u hu
            exact bv_one _ u (by simpa using hu)
          have hSR : ¬ R = O := by omega
          generalize outb (abs PP hh n) = D at *
          go_wp2_with (first
            | (refine wpList_loadRow rfl rfl O 32 (bv D).toArray 155 rfl HOF.out Tryz.underlying155 HI32.out ?_)
            | (refine wpList_storeRow rfl rfl R _ (bv D).toArray 155 rfl rfl HR7.out HI32.out HSZ.out HON.out ?_))
          refine bodyPost_ret (v := .agg (bv D).toArray) ((results_one (p := 2) (ty := 155) rfl _ _ _).trans (run_loadVar_row (P := Tryz.prog) _ R 155 155 (bv D).toArray (0, 0) _ (row_same HR7.out) Tryz.underlying155 rfl HI32.out)) rfl ⟨by rw [HSH.out], ?_⟩
          rw [HRR.out]
          exact HB7.out.trans ((row_kp wz R _).below (by have := HB7.out.size; have := HRR.out; omega) (fun q e => by omega))
end
section
open Go.RowKit

end
section
open Go.RowKit
set_option maxRecDepth 1000000 in
set_option maxHeartbeats 400000 in
theorem copy_any (w : World) (v : Value) (xs : List Nat) (hsl : BSl w v xs) (hlen : xs.length ≤ 140737488351232) :
    Calls Tryz.prog 13 #[v] w fun e w' => ∃ v', e = .returned v' ∧ w'.ownsRow w.heap.size 5 1 v' xs.length (bv xs) ∧ Below w.heap.size w w' := by
  have HSL := hide hsl
  have HL := hide hlen
  obtain ⟨⟨a, cap, rfl, hn, hc⟩, hmax, hb⟩ := hsl
  clear hn hc hb hlen
  go_enter Tryz.func13, Tryz.ntmps13
  go_wp2_with (at_builtin; refine append_bsl rfl _ _ rfl w.heap.size _ 0 [] rfl (World.ownsRow_nil _ _ _ _) _ xs rfl HSL.out ?b1 ?b2 ?_)
  case b1 => have := HL.out; omega
  case b2 => exact Nat.le_refl _
  intro v1 w1 ho1 hg1
  have hb1 : Below w.heap.size w w1 := (Below.refl _ _).grown hg1 (Nat.le_refl _) (fun q hq => by cases hq)
  have HO1 := hide ho1
  have HB1 := hide hb1
  clear ho1 hb1 hg1
  go_wp2
  go_ret
  exact ⟨_, rfl, by simpa using HO1.out, HB1.out⟩

def dlay (h : Nat) (d : List Nat) : List Nat × Nat :=
  if h ≠ 18 ∧ h ≠ 0 then ([], 30) else if (h = 18 ∧ d.length ≠ 32) ∨ (h = 0 ∧ 64 < d.length) then ([], 31) else (h :: d.length :: d, 0)
end
section
open Go.RowKit Go
def valB (b : Nat) (l : List Nat) : Nat := l.foldl (fun r d => r * b + d) 0
theorem foldl_shift (b : Nat) : ∀ (l : List Nat) (r : Nat), l.foldl (fun r d => r * b + d) r = r * b ^ l.length + valB b l
  | [], r => by simp [valB]
  | d :: l, r => by
    have h1 := foldl_shift b l (r * b + d)
    have h2 := foldl_shift b l (0 * b + d)
    simp only [List.foldl_cons, List.length_cons, valB] at *
    rw [h1, h2, Nat.zero_mul, Nat.zero_add, Nat.pow_succ, Nat.add_mul]
    have e : r * b * b ^ l.length = r * (b ^ l.length * b) := by rw [Nat.mul_assoc, Nat.mul_comm b]
    omega
theorem valB_cons (b d : Nat) (l : List Nat) : valB b (d :: l) = d * b ^ l.length + valB b l := by
  have h := foldl_shift b l (0 * b + d)
  unfold valB at *
  rw [List.foldl_cons, h, Nat.zero_mul, Nat.zero_add]
theorem valB_lt {b : Nat} (hb : 0 < b) : ∀ {l : List Nat}, (∀ d ∈ l, d < b) → valB b l < b ^ l.length
  | [], _ => by simp [valB]
  | d :: l, h => by
    have ih := valB_lt hb (l := l) (fun x hx => h x (List.mem_cons_of_mem _ hx))
    have hd := h d (by simp)
    rw [valB_cons, List.length_cons, Nat.pow_succ]
    have : (d + 1) * b ^ l.length ≤ b * b ^ l.length := Nat.mul_le_mul_right _ hd
    rw [Nat.add_mul, Nat.one_mul] at this
    rw [Nat.mul_comm (b ^ l.length) b]
    omega
def digB (b n : Nat) : List Nat := if _h : n = 0 ∨ b < 2 then [] else digB b (n / b) ++ [n % b]
termination_by n
decreasing_by exact Nat.div_lt_self (by omega) (by omega)
def conv (a b : Nat) (l : List Nat) : List Nat := List.replicate (l.takeWhile (· == 0)).length 0 ++ digB b (valB a (l.dropWhile (· == 0)))
def bitsW (w x : Nat) : List Nat := (List.range w).map fun k => x / 2 ^ (w - 1 - k) % 2
theorem bitsW_succ (w x : Nat) : bitsW (w + 1) x = x / 2 ^ w % 2 :: bitsW w x := by
  unfold bitsW
  rw [List.range_succ_eq_map, List.map_cons, List.map_map]
  congr 1
  refine List.map_congr_left fun k hk => ?_
  have := List.mem_range.1 hk
  simp only [Function.comp]
  congr 3
  omega
theorem bitsW_valB : ∀ (l : List Nat), (∀ d ∈ l, d < 2) → bitsW l.length (valB 2 l) = l
  | [], _ => rfl
  | d :: l, h => by
    have hd := h d (by simp)
    have hl : ∀ x ∈ l, x < 2 := fun x hx => h x (List.mem_cons_of_mem _ hx)
    have hv := valB_lt (b := 2) (by decide) hl
    rw [List.length_cons, bitsW_succ, valB_cons]
    have e1 : (d * 2 ^ l.length + valB 2 l) / 2 ^ l.length % 2 = d := by
      rw [Nat.mul_comm, Nat.mul_add_div (Nat.pow_pos (by decide)), Nat.div_eq_of_lt hv, Nat.add_zero, Nat.mod_eq_of_lt hd]
    have e2 : bitsW l.length (d * 2 ^ l.length + valB 2 l) = bitsW l.length (valB 2 l) := by
      unfold bitsW
      refine List.map_congr_left fun k hk => ?_
      have hk := List.mem_range.1 hk
      have e3 : d * 2 ^ l.length = 2 ^ (l.length - 1 - k) * (2 * (d * 2 ^ k)) := by
        have : 2 ^ l.length = 2 ^ (l.length - 1 - k) * (2 * 2 ^ k) := by
          rw [← Nat.pow_succ', ← Nat.pow_add]
          congr 1
          omega
        rw [this]
        ac_rfl
      rw [e3, Nat.mul_add_div (Nat.pow_pos (by decide)), Nat.add_mod, Nat.mul_mod_right, Nat.zero_add, Nat.mod_mod]
    rw [e1, e2, bitsW_valB l hl]
end
section
open Go.RowKit
theorem or_low (k a b : Nat) (hb : b < 2 ^ k) (h : 2 ^ k * a + b < 4294967296) (A B : Int) (hA : A = ((2 ^ k * a : Nat) : Int)) (hB : B = (b : Nat)) : bits .or .u32 A B = ((2 ^ k * a + b : Nat) : Int) := by
  subst hA
  subst hB
  rw [u32_or_nat _ _ (by omega) (by omega), ← Nat.two_pow_add_eq_or_of_lt hb]

set_option maxRecDepth 1000000 in
theorem word_any (w : World) (v : Value) (l : List Nat) (hsl : BSl w v l) (hp : l.length = 4) :
    Calls Tryz.prog 230 #[v] w fun e w' => e = .returned (.int .u32 (wrd l 0 : Nat)) ∧ Below w.heap.size w w' := by
  obtain ⟨⟨a, cap, rfl, hn, hc⟩, hmax, hb⟩ := hsl
  rcases hc with hc | ⟨b, off, rfl, hc⟩
  · subst hc; simp at hp
  have c0 : w.cell? ⟨b, off + 0, none⟩ = some (.int .u8 ((l.getD 0 0 : Nat) : Int)) := hc 0 (by omega)
  have c1 : w.cell? ⟨b, off + 1, none⟩ = some (.int .u8 ((l.getD 1 0 : Nat) : Int)) := hc 1 (by omega)
  have c2 : w.cell? ⟨b, off + 2, none⟩ = some (.int .u8 ((l.getD 2 0 : Nat) : Int)) := hc 2 (by omega)
  have c3 : w.cell? ⟨b, off + 3, none⟩ = some (.int .u8 ((l.getD 3 0 : Nat) : Int)) := hc 3 (by omega)
  have h0 := getD_lt hb 0
  have h1 := getD_lt hb 1
  have h2 := getD_lt hb 2
  have h3 := getD_lt hb 3
  have hE : wrd l 0 = ((l.getD 0 0 * 256 + l.getD 1 0) * 256 + l.getD 2 0) * 256 + l.getD 3 0 := rfl
  rw [hE]
  clear hn hc hb hE
  generalize l.getD 0 0 = x0 at *
  generalize l.getD 1 0 = x1 at *
  generalize l.getD 2 0 = x2 at *
  generalize l.getD 3 0 = x3 at *
  rw [Nat.add_zero] at c0
  have f1 : bits .or .u32 ((x0 : Int) * 16777216) ((x1 : Int) * 65536) = ((2 ^ 24 * x0 + x1 * 65536 : Nat) : Int) := or_low 24 x0 (x1 * 65536) (by omega) (by omega) _ _ (by omega) (by omega)
  have f2 : bits .or .u32 ((2 ^ 24 * x0 + x1 * 65536 : Nat) : Int) ((x2 : Int) * 256) = ((2 ^ 16 * (x0 * 256 + x1) + x2 * 256 : Nat) : Int) := or_low 16 (x0 * 256 + x1) (x2 * 256) (by omega) (by omega) _ _ (by omega) (by omega)
  have f3 : bits .or .u32 ((2 ^ 16 * (x0 * 256 + x1) + x2 * 256 : Nat) : Int) (x3 : Int) = ((2 ^ 8 * ((x0 * 256 + x1) * 256 + x2) + x3 : Nat) : Int) := or_low 8 ((x0 * 256 + x1) * 256 + x2) x3 (by omega) (by omega) _ _ (by omega) (by omega)
  have e3 : ((x0 * 256 + x1) * 256 + x2) * 256 + x3 = 2 ^ 8 * ((x0 * 256 + x1) * 256 + x2) + x3 := by omega
  rw [e3]
  have b1 : 2 ^ 24 * x0 + x1 * 65536 < 4294967296 := by omega
  have b2 : 2 ^ 16 * (x0 * 256 + x1) + x2 * 256 < 4294967296 := by omega
  have b3 : 2 ^ 8 * ((x0 * 256 + x1) * 256 + x2) + x3 < 4294967296 := by omega
  clear e3
  generalize 2 ^ 24 * x0 + x1 * 65536 = y1 at *
  generalize 2 ^ 16 * (x0 * 256 + x1) + x2 * 256 = y2 at *
  generalize 2 ^ 8 * ((x0 * 256 + x1) * 256 + x2) + x3 = y3 at *
  go_enter Tryz.func230, Tryz.ntmps230
  go_wp2_with fail
  go_quiet (fail)
  go_wp2_with fail
  go_ret
  exact ⟨rfl, (Kp.drewN (Kp.refl (fun _ => False) _) _).below (Nat.le_refl _) (fun _ h => h.elim)⟩
end
end Go.Proofs.YtnkghcndaafmoaaGreatDoor
