import Derived.Test.YtadilnmkjcmnnaaGreatDoorJs
import Derived.Test.YtadilnmkjcmnnaaGreatDoorJd
import Derived.Test.YtadilnmkjcmnnaaGreatDoorJi
import Derived.Test.YtadilnmkjcmnnaaGreatDoorJh
import Derived.Test.YtadilnmkjcmnnaaGreatDoorJl
import Derived.Test.YtadilnmkjcmnnaaGreatDoorJc
import Derived.Test.YtadilnmkjcmnnaaGreatDoorJo
namespace Go.Proofs.YtadilnmkjcmnnaaGreatDoor
section
open Go.RowKit Go
def zi : Array Value := #[.int .i64 0, .int .i64 0, .int .u64 0, .int .i64 0, .bool false, .slice none 0 0, .string ⟨#[]⟩, .int .i64 0, .int .u64 0, .int .u64 0, .string ⟨#[]⟩]
theorem infoI : (Tryz.prog.info? 115).map (·.size) = some 11 := by kernel_rfl
/-- Where look stands: its answer, the head. -/
structure Lkw (w wx : World) : Prop where
  b : Below w.heap.size w wx
  r : wx.heap[w.heap.size]? = some (.cells zi 115 (0, 0))
theorem Lkw.next {w wx wy : World} (h : Lkw w wx) (hb : Below wx.heap.size wx wy) : Lkw w wy := ⟨h.b.trans (hb.mono h.b.size), (hb.block _ (blk_lt h.r)).trans h.r⟩
theorem end_look {wx : World} {R : Nat} {c : Array Value} {e : Int} {tmps : Array Value} (hn : c.size = 11) (hr : wx.heap[R]? = some (.cells c 115 (0, 0))) (hp : tmps.getD 4 undef = .pointer (some ⟨R, 0, none⟩)) (he : tmps.getD 5 undef = .int .i64 e) : (results Tryz.f122 tmps).run Tryz.prog wx = .ok (.tuple #[.agg c, .int .i64 e]) wx := by
  have h1 := run_loadVar_row (P := Tryz.prog) wx R 115 115 c (0, 0) _ hr Tryz.underlying115 rfl (by rw [hn]; exact infoI)
  refine (results_cell_tmp rfl _ _ _).trans ?_
  rw [hp, he]
  simp [asAddr, h1, Result.andThen]
theorem hrd_bd (b : List Nat) (hb : ∀ x ∈ b, x < 256) : (hrd b).n < 18446744073709551616 ∧ (hrd b).m ≤ 7 ∧ ((hrd b).e = 0 → (hrd b).u ≤ b.length) := by
  cases b with
  | nil => exact ⟨by decide, by decide, fun h => by cases h⟩
  | cons x r =>
    have hx := hb x (List.mem_cons_self ..)
    refine ⟨?_, ?_, fun h => (hrd_app (tl := []) (b := x :: r) (by rw [h]; decide)).2⟩
    · by_cases h1 : 27 < x % 32
      · by_cases h2 : x % 32 = 31 ∧ x / 32 ≠ 0 ∧ x / 32 ≠ 1 ∧ x / 32 ≠ 6
        · rw [hrd_end h2.1 h2.2]; show 0 < _; decide
        · rw [hrd_info h1 h2]; show 0 < _; decide
      · by_cases h2 : x % 32 < 24
        · rw [hrd_small h2]; show x % 32 < _; omega
        · by_cases h3 : r.length < hwide (x % 32)
          · rw [hrd_short (by omega) (by omega) h3]; show 0 < _; decide
          · by_cases h4 : x / 32 = 7 ∧ x % 32 = 24 ∧ bnum 0 (r.take (hwide (x % 32))) < 32
            · rw [hrd_low h4.2.1 h3 h4.1 h4.2.2]; show 0 < _; decide
            · rw [hrd_long (by omega) (by omega) h3 h4]
              show bnum 0 (r.take (hwide (x % 32))) < _
              have h5 := bnum_lt (r.take (hwide (x % 32))) 0 (fun y hy => hb y (List.mem_cons_of_mem _ (List.mem_of_mem_take hy)))
              have h6 : (r.take (hwide (x % 32))).length ≤ 8 := by rw [List.length_take]; have := hwide_le (x % 32); omega
              have h7 : 256 ^ (r.take (hwide (x % 32))).length ≤ 256 ^ 8 := Nat.pow_le_pow_right (by decide) h6
              have h8 : (256 : Nat) ^ 8 = 18446744073709551616 := by decide
              omega
    · by_cases h0 : (hrd (x :: r)).e = 0
      · rw [hrd_m h0]; omega
      · by_cases h1 : 27 < x % 32
        · by_cases h2 : x % 32 = 31 ∧ x / 32 ≠ 0 ∧ x / 32 ≠ 1 ∧ x / 32 ≠ 6
          · rw [hrd_end h2.1 h2.2]; show x / 32 ≤ 7; omega
          · rw [hrd_info h1 h2]; exact Nat.zero_le _
        · by_cases h2 : x % 32 < 24
          · rw [hrd_small h2]; show x / 32 ≤ 7; omega
          · by_cases h3 : r.length < hwide (x % 32)
            · rw [hrd_short (by omega) (by omega) h3]; exact Nat.zero_le _
            · by_cases h4 : x / 32 = 7 ∧ x % 32 = 24 ∧ bnum 0 (r.take (hwide (x % 32))) < 32
              · rw [hrd_low h4.2.1 h3 h4.1 h4.2.2]; exact Nat.zero_le _
              · rw [hrd_long (by omega) (by omega) h3 h4]; show x / 32 ≤ 7; omega
theorem exec_itemAt {o : Oper} {a : Act} {p : Operand} {g : Nat} {h : HR} {vb : Value} {s : ByteArray} {l : Lk} {w : World} (ho : o.op = .load 115 p) (hp : a.eval p = .pointer (some ⟨g, 0, none⟩)) (hg : w.heap[g]? = some (.cells (ics h vb s l) 115 (0, 0))) : (execOp a.eval o).run Tryz.prog w = .ok (.value (.agg (ics h vb s l))) w := by
  have h1 := run_loadVar_row (P := Tryz.prog) w g 115 115 (ics h vb s l) (0, 0) _ hg Tryz.underlying115 rfl infoI
  unfold execOp
  simp only [ho, Sem.run_bind, hp, Instr.loadAt, Instr.sureAddr, Sem.run_pure, Result.andThen, h1]
/-- What look tells. -/
theorem ics_all (h : HR) {vb : Value} (s : ByteArray) (l : Lk) (h1 : vb.oneCell' = true) : (ics h vb s l).all (·.oneCell') = true := by
  rw [Array.all_eq_true']
  intro u hu
  simp only [ics, List.mem_toArray, List.mem_cons, List.not_mem_nil, or_false] at hu
  rcases hu with rfl | rfl | rfl | rfl | rfl | rfl | rfl | rfl | rfl | rfl | rfl <;> first | rfl | exact h1
theorem zi_all : zi.all (·.oneCell') = true := by
  rw [Array.all_eq_true']
  intro u hu
  simp only [zi, List.mem_toArray, List.mem_cons, List.not_mem_nil, or_false] at hu
  rcases hu with rfl | rfl | rfl | rfl | rfl | rfl | rfl | rfl | rfl | rfl | rfl <;> rfl
def LookP (w : World) (want : Nat) (b : List Nat) (e : Ending) (w' : World) : Prop := Below w.heap.size w w' ∧ ∃ c, c.size = 11 ∧ c.all (·.oneCell') = true ∧ e = .returned (.tuple #[.agg c, .int .i64 (rlook want b : Nat)]) ∧ (rlook want b = 0 → ∃ vb, c = ics (hrd b) vb (rtext (hrd b) (rbody b) ⟨#[]⟩) (rlink want (hrd b) (rbody b) ⟨0, 0, 0, []⟩) ∧ BSl w' vb (rbody b))
theorem LookP.bad {w w' : World} {want : Nat} {b : List Nat} {k : Nat} (hb : Below w.heap.size w w') (hk : rlook want b = k) (h0 : k ≠ 0) : LookP w want b (.returned (.tuple #[.agg zi, .int .i64 (k : Nat)])) w' :=
  ⟨hb, zi, rfl, zi_all, by rw [hk], fun h => absurd (hk.symm.trans h) h0⟩
theorem LookP.good {w w' : World} {want : Nat} {b : List Nat} {h : HR} {y : List Nat} {s : ByteArray} {l : Lk} {vb : Value} (hb : Below w.heap.size w w') (hk : rlook want b = 0) (hh : hrd b = h) (hy : rbody b = y) (hs : s = rtext h y ⟨#[]⟩) (hl : l = rlink want h y ⟨0, 0, 0, []⟩) (hv : BSl w' vb y) (h1 : vb.oneCell' = true) : LookP w want b (.returned (.tuple #[.agg (ics h vb s l), .int .i64 0])) w' :=
  ⟨hb, ics h vb s l, rfl, ics_all h s l h1, by rw [hk]; rfl, fun _ => ⟨vb, by rw [hh, hy, hs, hl], by rw [hy]; exact hv⟩⟩
theorem bsl_one {w : World} {v : Value} {xs : List Nat} (h : BSl w v xs) : v.oneCell' = true := by
  obtain ⟨⟨a, c, hv, _⟩, _⟩ := h
  rw [hv]
  rfl
set_option maxRecDepth 1000000 in
set_option maxHeartbeats 4000000 in
theorem look8_any (W : World) (hT : Tabs W) (w : World) (hW : Below W.heap.size W w) (v : Value) (b : List Nat) (hb : BSl w v b) (hbl : b.length ≤ 140737488351232) (want : Nat) :
    Calls Tryz.prog 122 #[v, .int .i64 (want : Nat)] w (LookP w want b) := by
  have HBB := hide hb
  have HT := hide hT
  have HWW := hide hW
  have HQ0 : Hid (Lkw w (w.alloc (.cells zi 115))) := ⟨below_alloc4 w _, heap_alloc_new w _⟩
  obtain ⟨⟨a, cap, rfl, hn2, hc⟩, hmax, hby⟩ := hb
  have HN2 := hide hn2
  clear hT hW hc hn2 hmax hby
  unfold zi at HQ0
  go_enter Tryz.func122, Tryz.ntmps122
  go_wp2_with fail
  generalize w.alloc (.cells #[.int .i64 0, .int .i64 0, .int .u64 0, .int .i64 0, .bool false, .slice none 0 0, .string ⟨#[]⟩, .int .i64 0, .int .u64 0, .int .u64 0, .string ⟨#[]⟩] 115) = w0 at *
  refine (read_any w0 _ b (HBB.out.move (keep_below HQ0.out.b))).mono ?_
  rintro e w1 ⟨rfl, hb1⟩
  have HQ1 := hide (HQ0.out.next hb1)
  have HWX : Hid (w.heap.size < w1.heap.size) := blk_lt HQ1.out.r
  clear hb1 HQ0
  have HRK : Hid (rlook want b = if (hrd b).e = 20 then 82 else if (hrd b).e ≠ 0 ∨ (hrd b).i = 31 then 83 else if ((hrd b).m = 2 ∨ (hrd b).m = 3) ∧ b.length - (hrd b).u < (hrd b).n then 82 else if rmay (hrd b) (rbody b) = false ∨ rfit want (hrd b) (rbody b) = false then 83 else 0) := rfl
  have HRY : Hid (rbody b = if (hrd b).m = 2 ∨ (hrd b).m = 3 then (b.drop (hrd b).u).take (hrd b).n else []) := rfl
  have HHN : Hid ((hrd b).n < 18446744073709551616 ∧ (hrd b).m ≤ 7 ∧ ((hrd b).e = 0 → (hrd b).u ≤ b.length)) := hrd_bd b HBB.out.byte
  generalize hh : hrd b = h at *
  have HHH := hide hh
  clear hh
  obtain ⟨hm, hi, hn, hu, hs, he⟩ := h
  simp only at HRK HRY HHN
  have HQ2 := hide (HQ1.out.next (below_alloc4 w1 (.cells #[.int .i64 (hm : Nat), .int .i64 (hi : Nat), .int .u64 (hn : Nat), .int .i64 (hu : Nat), .bool hs] 113)))
  have HG2 : Hid ((w1.alloc (.cells #[.int .i64 (hm : Nat), .int .i64 (hi : Nat), .int .u64 (hn : Nat), .int .i64 (hu : Nat), .bool hs] 113)).heap[w1.heap.size]? = some (.cells #[.int .i64 (hm : Nat), .int .i64 (hi : Nat), .int .u64 (hn : Nat), .int .i64 (hu : Nat), .bool hs] 113 (0, 0))) := heap_alloc_new w1 _
  have HI1 : Hid ((Tryz.prog.info? 115).map (·.size) = some zi.size) := infoI
  have HA1 : Hid (zi.all (·.oneCell') = true) := zi_all
  simp only [HR.val]
  clear HQ1
  by_cases h20 : he = 20
  · as_aux_lemma =>
    have g1 : ((he : Int) == 20) = true := beq_iff_eq.2 (by omega)
    have HK : Hid (rlook want b = 82) := by show _ = _; rw [HRK.out, if_pos h20]
    have HR2 := hide HQ2.out.r
    clear h20 HRK HRY
    go_wp2_with (refine wpList_storeRow rfl rfl w.heap.size zi zi 115 rfl rfl HR2.out HI1.out rfl HA1.out ?_)
    exact bodyPost_ret (end_look rfl (row_same HR2.out) rfl rfl) rfl (LookP.bad (HQ2.out.b.trans ((row_kp _ _ _).below HQ2.out.b.size (fun q e => by omega))) HK.out (by decide))
  have g1 : ((he : Int) == 20) = false := beq_eq_false_iff_ne.2 (by omega)
  by_cases h0 : he = 0
  case neg => as_aux_lemma =>
    have g2 : ((he : Int) != 0) = true := by rw [bne_iff_ne]; omega
    have HK : Hid (rlook want b = 83) := by show _ = _; rw [HRK.out, if_neg h20, if_pos (.inl h0)]
    have HR2 := hide HQ2.out.r
    clear h20 h0 HRK HRY
    go_wp2_with (refine wpList_storeRow rfl rfl w.heap.size zi zi 115 rfl rfl HR2.out HI1.out rfl HA1.out ?_)
    exact bodyPost_ret (end_look rfl (row_same HR2.out) rfl rfl) rfl (LookP.bad (HQ2.out.b.trans ((row_kp _ _ _).below HQ2.out.b.size (fun q e => by omega))) HK.out (by decide))
  have g2 : ((he : Int) != 0) = false := by rw [bne_eq_false_iff_eq]; omega
  by_cases h31 : hi = 31
  · as_aux_lemma =>
    have g3 : ((hi : Int) == 31) = true := beq_iff_eq.2 (by omega)
    have HK : Hid (rlook want b = 83) := by show _ = _; rw [HRK.out, if_neg h20, if_pos (.inr h31)]
    have HR2 := hide HQ2.out.r
    clear h20 h0 h31 HRK HRY
    go_wp2_with (refine wpList_storeRow rfl rfl w.heap.size zi zi 115 rfl rfl HR2.out HI1.out rfl HA1.out ?_)
    exact bodyPost_ret (end_look rfl (row_same HR2.out) rfl rfl) rfl (LookP.bad (HQ2.out.b.trans ((row_kp _ _ _).below HQ2.out.b.size (fun q e => by omega))) HK.out (by decide))
  have g3 : ((hi : Int) == 31) = false := beq_eq_false_iff_ne.2 (by omega)
  have HRK2 : Hid (rlook want b = if (hm = 2 ∨ hm = 3) ∧ b.length - hu < hn then 82 else if rmay ⟨hm, hi, hn, hu, hs, he⟩ (rbody b) = false ∨ rfit want ⟨hm, hi, hn, hu, hs, he⟩ (rbody b) = false then 83 else 0) := by
    show _ = _
    rw [HRK.out, if_neg h20, if_neg (by omega)]
  have HUB : Hid (hu ≤ b.length) := HHN.out.2.2 h0
  clear HRK h20 h31 h0
  have HG3 : Hid (((w1.alloc (.cells #[.int .i64 (hm : Nat), .int .i64 (hi : Nat), .int .u64 (hn : Nat), .int .i64 (hu : Nat), .bool hs] 113)).alloc (.cells #[.int .i64 (hm : Nat), .int .i64 (hi : Nat), .int .u64 (hn : Nat), .int .i64 (hu : Nat), .bool hs, .slice none 0 0, .string ⟨#[]⟩, .int .i64 0, .int .u64 0, .int .u64 0, .string ⟨#[]⟩] 115)).heap[w1.heap.size + 1]? = some (.cells (ics ⟨hm, hi, hn, hu, hs, he⟩ (.slice none 0 0) ⟨#[]⟩ ⟨0, 0, 0, []⟩) 115 (0, 0))) := by
    have h := heap_alloc_new (w1.alloc (.cells #[.int .i64 (hm : Nat), .int .i64 (hi : Nat), .int .u64 (hn : Nat), .int .i64 (hu : Nat), .bool hs] 113)) (.cells #[.int .i64 (hm : Nat), .int .i64 (hi : Nat), .int .u64 (hn : Nat), .int .i64 (hu : Nat), .bool hs, .slice none 0 0, .string ⟨#[]⟩, .int .i64 0, .int .u64 0, .int .u64 0, .string ⟨#[]⟩] 115)
    have e : (w1.alloc (.cells #[.int .i64 (hm : Nat), .int .i64 (hi : Nat), .int .u64 (hn : Nat), .int .i64 (hu : Nat), .bool hs] 113)).heap.size = w1.heap.size + 1 := by simp
    rw [e] at h
    exact h
  have HQ3 := hide (HQ2.out.next (below_alloc4 _ (.cells #[.int .i64 (hm : Nat), .int .i64 (hi : Nat), .int .u64 (hn : Nat), .int .i64 (hu : Nat), .bool hs, .slice none 0 0, .string ⟨#[]⟩, .int .i64 0, .int .u64 0, .int .u64 0, .string ⟨#[]⟩] 115)))
  have HGH := hide (blk_alloc (.cells #[.int .i64 (hm : Nat), .int .i64 (hi : Nat), .int .u64 (hn : Nat), .int .i64 (hu : Nat), .bool hs, .slice none 0 0, .string ⟨#[]⟩, .int .i64 0, .int .u64 0, .int .u64 0, .string ⟨#[]⟩] 115) HG2.out)
  go_upto_region 7 with fail
  generalize (w1.alloc (.cells #[.int .i64 (hm : Nat), .int .i64 (hi : Nat), .int .u64 (hn : Nat), .int .i64 (hu : Nat), .bool hs] 113)).alloc (.cells #[.int .i64 (hm : Nat), .int .i64 (hi : Nat), .int .u64 (hn : Nat), .int .i64 (hu : Nat), .bool hs, .slice none 0 0, .string ⟨#[]⟩, .int .i64 0, .int .u64 0, .int .u64 0, .string ⟨#[]⟩] 115) = w3 at *
  clear HQ2 HG2
  have d0 : w3.cell? ⟨w1.heap.size, 0, none⟩ = some (.int .i64 (hm : Nat)) := blk_cell HGH.out rfl
  by_cases hs2 : hm = 2 ∨ hm = 3
  · as_aux_lemma =>
    have HDR := hide (bsl_drop8 (k := hu) HBB.out HUB.out)
    obtain ⟨a2, n2, c2, hd2, hn2, hc2⟩ : ∃ a2 n2 c2, dropS a b.length cap hu = .slice a2 n2 c2 ∧ n2 = b.length - hu ∧ n2 ≤ c2 := by
      obtain ⟨⟨a2, c2, h1, h2, _⟩, _⟩ := HDR.out
      rw [List.length_drop] at h1 h2
      exact ⟨a2, _, c2, h1, rfl, h2.1⟩
    have HD2 := hide hd2
    rw [hd2] at HDR
    have HC2 := hide hc2
    have d2 : w3.cell? ⟨w1.heap.size, 2, none⟩ = some (.int .u64 (hn : Nat)) := blk_cell HGH.out rfl
    have d3 : w3.cell? ⟨w1.heap.size, 3, none⟩ = some (.int .i64 (hu : Nat)) := blk_cell HGH.out rfl
    have HS2 := hide hs2
    go_cut [35] from 28 to 35 (fun bb wx => bb = .bool true ∧ wx = w3)
    case first => as_aux_lemma =>
      by_cases hm2 : hm = 2
      · as_aux_lemma =>
        have g4 : ((hm : Int) == 2) = true := beq_iff_eq.2 (by omega)
        go_wp2_with fail
        go_meet
        case rel => exact ⟨rfl, rfl⟩
      · as_aux_lemma =>
        have g4 : ((hm : Int) == 2) = false := beq_eq_false_iff_ne.2 (by omega)
        have g5 : ((hm : Int) == 3) = true := beq_iff_eq.2 (by have := HS2.out; omega)
        go_wp2_with fail
        go_meet
        case rel => exact ⟨rfl, rfl⟩
    obtain ⟨rfl, hwc⟩ := hcut
    have hwc2 := hwc.symm
    subst hwc2
    have gw : IntKind.u64.wrap (n2 : Int) = (n2 : Int) := by rw [IntKind.wrap_u64]; omega
    by_cases hlt : n2 < hn
    · as_aux_lemma =>
      have g6 : (n2 : Int) < (hn : Int) := by omega
      have HK : Hid (rlook want b = 82) := by show _ = _; rw [HRK2.out, if_pos ⟨HS2.out, by omega⟩]
      have HR2 := hide HQ3.out.r
      have HEX : Hid (hu ≤ b.length ∧ b.length ≤ cap ∧ (a = none → cap = 0)) := ⟨HUB.out, HN2.out.1, HN2.out.2⟩
      clear hlt HRK2 HRY hs2
      go_wp2_with (first
        | (refine wpList_exec rfl (v := .slice a2 n2 c2) (by rw [← HD2.out]; exact exec_drop (k := hu) rfl rfl rfl HEX.out.1 HEX.out.2.1 HEX.out.2.2) ?_)
        | (refine wpList_storeRow rfl rfl w.heap.size zi zi 115 rfl rfl HR2.out HI1.out rfl HA1.out ?_))
      exact bodyPost_ret (end_look rfl (row_same HR2.out) rfl rfl) rfl (LookP.bad (HQ3.out.b.trans ((row_kp _ _ _).below HQ3.out.b.size (fun q e => by omega))) HK.out (by decide))
    have g6 : ¬ (n2 : Int) < (hn : Int) := by omega
    have HRK3 : Hid (rlook want b = if rmay ⟨hm, hi, hn, hu, hs, he⟩ (rbody b) = false ∨ rfit want ⟨hm, hi, hn, hu, hs, he⟩ (rbody b) = false then 83 else 0) := by show _ = _; rw [HRK2.out, if_neg (fun h => hlt (by have := h.2; omega))]
    have HYE : Hid (rbody b = (b.drop hu).take hn) := by show _ = _; rw [HRY.out, if_pos HS2.out]
    have HBV : Hid (BSl w (.slice a2 hn c2) (rbody b)) := by
      rw [HYE.out]
      exact bsl_take8 HDR.out (by rw [List.length_drop]; omega)
    have HYL : Hid ((rbody b).length ≤ 140737488351232) := by
      show _ ≤ _
      rw [HYE.out, List.length_take, List.length_drop]
      omega
    have HEX : Hid (hu ≤ b.length ∧ b.length ≤ cap ∧ (a = none → cap = 0)) := ⟨HUB.out, HN2.out.1, HN2.out.2⟩
    have HEY : Hid (hn ≤ n2 ∧ n2 ≤ c2) := ⟨by omega, HC2.out⟩
    have c5 : w3.cell? ⟨w1.heap.size + 1, 5, none⟩ = some (.slice none 0 0) := blk_cell HG3.out rfl
    have f5 := blk_frozen 5 HG3.out
    have hst := item_set 5 (.slice a2 hn c2) HG3.out
    have HG5 : Hid ((w3.setCell ⟨w1.heap.size + 1, 5, none⟩ (.slice a2 hn c2)).heap[w1.heap.size + 1]? = some (.cells (ics ⟨hm, hi, hn, hu, hs, he⟩ (.slice a2 hn c2) ⟨#[]⟩ ⟨0, 0, 0, []⟩) 115 (0, 0))) := hst.1
    have HQ5 : Hid (Lkw w (w3.setCell ⟨w1.heap.size + 1, 5, none⟩ (.slice a2 hn c2))) := ⟨HQ3.out.b.trans (hst.2.below HQ3.out.b.size (fun q e => by have := HWX.out; omega)), (hst.2.block _ (blk_lt HQ3.out.r) (by have := HWX.out; omega)).trans HQ3.out.r⟩
    clear hst hlt HRK2 HRY HYE hs2 HS2
    go_upto_region 12 with (first
      | (refine wpList_exec rfl (v := .slice a2 n2 c2) (by rw [← HD2.out]; exact exec_drop (k := hu) rfl rfl rfl HEX.out.1 HEX.out.2.1 HEX.out.2.2) ?_)
      | (refine wpList_exec rfl (v := .slice a2 hn c2) (exec_take (k := hn) rfl rfl rfl HEY.out.1 HEY.out.2) ?_))
    generalize w3.setCell ⟨w1.heap.size + 1, 5, none⟩ (.slice a2 hn c2) = w5 at *
    have HQ6b : Hid (W.heap.size ≤ w1.heap.size + 1) := by have := HWW.out.size; have := HWX.out; show _ ≤ _; omega
    go_wp2_with fail
    refine (maybe_any W HT.out w5 (HWW.out.trans (HQ5.out.b.mono HWW.out.size)) (w1.heap.size + 1) HQ6b.out ⟨hm, hi, hn, hu, hs, he⟩ (.slice a2 hn c2) (rbody b) ⟨#[]⟩ ⟨0, 0, 0, []⟩ HG5.out (HBV.out.move (keep_below HQ5.out.b)) HYL.out HHN.out.1).mono ?_
    rintro e w6 ⟨rfl, hg6, hk6⟩
    have HG6 := hide hg6
    have HQ6 : Hid (Lkw w w6) := ⟨HQ5.out.b.trans (hk6.below HQ5.out.b.size (fun q e => by have := HWX.out; omega)), (hk6.block _ (blk_lt HQ5.out.r) (by have := HWX.out; omega)).trans HQ5.out.r⟩
    clear hg6 hk6
    by_cases hmb : rmay ⟨hm, hi, hn, hu, hs, he⟩ (rbody b) = false
    · as_aux_lemma =>
      rw [hmb]
      have HK : Hid (rlook want b = 83) := by show _ = _; rw [HRK3.out, if_pos (.inl hmb)]
      have HR2 := hide HQ6.out.r
      clear hmb HRK3
      go_wp2_with (refine wpList_storeRow rfl rfl w.heap.size zi zi 115 rfl rfl HR2.out HI1.out rfl HA1.out ?_)
      exact bodyPost_ret (end_look rfl (row_same HR2.out) rfl rfl) rfl (LookP.bad (HQ6.out.b.trans ((row_kp _ _ _).below HQ6.out.b.size (fun q e => by omega))) HK.out (by decide))
    have HMB : Hid (rmay ⟨hm, hi, hn, hu, hs, he⟩ (rbody b) = true) := by show _ = _; simpa using hmb
    rw [HMB.out]
    clear hmb
    go_wp2_with fail
    refine (fits8_any w6 (w1.heap.size + 1) want ⟨hm, hi, hn, hu, hs, he⟩ (.slice a2 hn c2) (rbody b) _ ⟨0, 0, 0, []⟩ HG6.out (HBV.out.move (keep_below HQ6.out.b)) HYL.out).mono ?_
    rintro e w7 ⟨rfl, hg7, hk7⟩
    have HG7 := hide hg7
    have HQ7 : Hid (Lkw w w7) := ⟨HQ6.out.b.trans (hk7.below HQ6.out.b.size (fun q e => by have := HWX.out; omega)), (hk7.block _ (blk_lt HQ6.out.r) (by have := HWX.out; omega)).trans HQ6.out.r⟩
    clear hg7 hk7 HQ6 HG6
    have HR2 := hide HQ7.out.r
    by_cases hft : rfit want ⟨hm, hi, hn, hu, hs, he⟩ (rbody b) = false
    · as_aux_lemma =>
      rw [hft]
      have HK : Hid (rlook want b = 83) := by show _ = _; rw [HRK3.out, if_pos (.inr hft)]
      clear hft HRK3
      go_wp2_with (refine wpList_storeRow rfl rfl w.heap.size zi zi 115 rfl rfl HR2.out HI1.out rfl HA1.out ?_)
      exact bodyPost_ret (end_look rfl (row_same HR2.out) rfl rfl) rfl (LookP.bad (HQ7.out.b.trans ((row_kp _ _ _).below HQ7.out.b.size (fun q e => by omega))) HK.out (by decide))
    have HFT : Hid (rfit want ⟨hm, hi, hn, hu, hs, he⟩ (rbody b) = true) := by show _ = _; simpa using hft
    rw [HFT.out]
    have HK : Hid (rlook want b = 0) := by show _ = _; rw [HRK3.out, if_neg (by rw [HMB.out, HFT.out]; simp)]
    have HV1 := hide (bsl_one HBV.out)
    have HA3 := hide (ics_all (⟨hm, hi, hn, hu, hs, he⟩ : HR) (rtext ⟨hm, hi, hn, hu, hs, he⟩ (rbody b) ⟨#[]⟩) (rlink want ⟨hm, hi, hn, hu, hs, he⟩ (rbody b) ⟨0, 0, 0, []⟩) HV1.out)
    have HI3 : Hid ((Tryz.prog.info? 115).map (·.size) = some (ics ⟨hm, hi, hn, hu, hs, he⟩ (.slice a2 hn c2) (rtext ⟨hm, hi, hn, hu, hs, he⟩ (rbody b) ⟨#[]⟩) (rlink want ⟨hm, hi, hn, hu, hs, he⟩ (rbody b) ⟨0, 0, 0, []⟩)).size) := infoI
    have HZ3 : Hid (zi.size = (ics ⟨hm, hi, hn, hu, hs, he⟩ (.slice a2 hn c2) (rtext ⟨hm, hi, hn, hu, hs, he⟩ (rbody b) ⟨#[]⟩) (rlink want ⟨hm, hi, hn, hu, hs, he⟩ (rbody b) ⟨0, 0, 0, []⟩)).size) := rfl
    clear hft
    go_wp2_with (first
      | (refine wpList_exec rfl (exec_itemAt (g := w1.heap.size + 1) rfl rfl HG7.out) ?_)
      | (refine wpList_storeRow rfl rfl w.heap.size zi (ics ⟨hm, hi, hn, hu, hs, he⟩ (.slice a2 hn c2) (rtext ⟨hm, hi, hn, hu, hs, he⟩ (rbody b) ⟨#[]⟩) (rlink want ⟨hm, hi, hn, hu, hs, he⟩ (rbody b) ⟨0, 0, 0, []⟩)) 115 rfl rfl HR2.out HI3.out HZ3.out HA3.out ?_))
    have hbz : Below w.heap.size w (w7.setRow w.heap.size (ics ⟨hm, hi, hn, hu, hs, he⟩ (.slice a2 hn c2) (rtext ⟨hm, hi, hn, hu, hs, he⟩ (rbody b) ⟨#[]⟩) (rlink want ⟨hm, hi, hn, hu, hs, he⟩ (rbody b) ⟨0, 0, 0, []⟩))) := HQ7.out.b.trans ((row_kp _ _ _).below HQ7.out.b.size (fun q e => by omega))
    exact bodyPost_ret (end_look rfl (row_same HR2.out) rfl rfl) rfl (LookP.good hbz HK.out HHH.out rfl rfl rfl (HBV.out.move (keep_below hbz)) HV1.out)
  · as_aux_lemma =>
    have g4 : ((hm : Int) == 2) = false := beq_eq_false_iff_ne.2 (by omega)
    have g5 : ((hm : Int) == 3) = false := beq_eq_false_iff_ne.2 (by omega)
    have HRK3 : Hid (rlook want b = if rmay ⟨hm, hi, hn, hu, hs, he⟩ (rbody b) = false ∨ rfit want ⟨hm, hi, hn, hu, hs, he⟩ (rbody b) = false then 83 else 0) := by show _ = _; rw [HRK2.out, if_neg (fun h => hs2 h.1)]
    have HYE : Hid (rbody b = []) := by show _ = _; rw [HRY.out, if_neg hs2]
    have HBV : Hid (BSl w (.slice none 0 0) (rbody b)) := by rw [HYE.out]; exact bsl_none w
    have HYL : Hid ((rbody b).length ≤ 140737488351232) := by rw [HYE.out]; exact Nat.zero_le _
    clear HRK2 hs2 HRY HYE
    go_upto_region 12 with fail
    have HQ6b : Hid (W.heap.size ≤ w1.heap.size + 1) := by have := HWW.out.size; have := HWX.out; show _ ≤ _; omega
    go_wp2_with fail
    refine (maybe_any W HT.out w3 (HWW.out.trans (HQ3.out.b.mono HWW.out.size)) (w1.heap.size + 1) HQ6b.out ⟨hm, hi, hn, hu, hs, he⟩ (.slice none 0 0) (rbody b) ⟨#[]⟩ ⟨0, 0, 0, []⟩ HG3.out (HBV.out.move (keep_below HQ3.out.b)) HYL.out HHN.out.1).mono ?_
    rintro e w6 ⟨rfl, hg6, hk6⟩
    have HG6 := hide hg6
    have HQ6 : Hid (Lkw w w6) := ⟨HQ3.out.b.trans (hk6.below HQ3.out.b.size (fun q e => by have := HWX.out; omega)), (hk6.block _ (blk_lt HQ3.out.r) (by have := HWX.out; omega)).trans HQ3.out.r⟩
    clear hg6 hk6
    by_cases hmb : rmay ⟨hm, hi, hn, hu, hs, he⟩ (rbody b) = false
    · as_aux_lemma =>
      rw [hmb]
      have HK : Hid (rlook want b = 83) := by show _ = _; rw [HRK3.out, if_pos (.inl hmb)]
      have HR2 := hide HQ6.out.r
      clear hmb HRK3
      go_wp2_with (refine wpList_storeRow rfl rfl w.heap.size zi zi 115 rfl rfl HR2.out HI1.out rfl HA1.out ?_)
      exact bodyPost_ret (end_look rfl (row_same HR2.out) rfl rfl) rfl (LookP.bad (HQ6.out.b.trans ((row_kp _ _ _).below HQ6.out.b.size (fun q e => by omega))) HK.out (by decide))
    have HMB : Hid (rmay ⟨hm, hi, hn, hu, hs, he⟩ (rbody b) = true) := by show _ = _; simpa using hmb
    rw [HMB.out]
    clear hmb
    go_wp2_with fail
    refine (fits8_any w6 (w1.heap.size + 1) want ⟨hm, hi, hn, hu, hs, he⟩ (.slice none 0 0) (rbody b) _ ⟨0, 0, 0, []⟩ HG6.out (HBV.out.move (keep_below HQ6.out.b)) HYL.out).mono ?_
    rintro e w7 ⟨rfl, hg7, hk7⟩
    have HG7 := hide hg7
    have HQ7 : Hid (Lkw w w7) := ⟨HQ6.out.b.trans (hk7.below HQ6.out.b.size (fun q e => by have := HWX.out; omega)), (hk7.block _ (blk_lt HQ6.out.r) (by have := HWX.out; omega)).trans HQ6.out.r⟩
    clear hg7 hk7 HQ6 HG6
    have HR2 := hide HQ7.out.r
    by_cases hft : rfit want ⟨hm, hi, hn, hu, hs, he⟩ (rbody b) = false
    · as_aux_lemma =>
      rw [hft]
      have HK : Hid (rlook want b = 83) := by show _ = _; rw [HRK3.out, if_pos (.inr hft)]
      clear hft HRK3
      go_wp2_with (refine wpList_storeRow rfl rfl w.heap.size zi zi 115 rfl rfl HR2.out HI1.out rfl HA1.out ?_)
      exact bodyPost_ret (end_look rfl (row_same HR2.out) rfl rfl) rfl (LookP.bad (HQ7.out.b.trans ((row_kp _ _ _).below HQ7.out.b.size (fun q e => by omega))) HK.out (by decide))
    have HFT : Hid (rfit want ⟨hm, hi, hn, hu, hs, he⟩ (rbody b) = true) := by show _ = _; simpa using hft
    rw [HFT.out]
    have HK : Hid (rlook want b = 0) := by show _ = _; rw [HRK3.out, if_neg (by rw [HMB.out, HFT.out]; simp)]
    have HV1 := hide (bsl_one HBV.out)
    have HA3 := hide (ics_all (⟨hm, hi, hn, hu, hs, he⟩ : HR) (rtext ⟨hm, hi, hn, hu, hs, he⟩ (rbody b) ⟨#[]⟩) (rlink want ⟨hm, hi, hn, hu, hs, he⟩ (rbody b) ⟨0, 0, 0, []⟩) HV1.out)
    have HI3 : Hid ((Tryz.prog.info? 115).map (·.size) = some (ics ⟨hm, hi, hn, hu, hs, he⟩ (.slice none 0 0) (rtext ⟨hm, hi, hn, hu, hs, he⟩ (rbody b) ⟨#[]⟩) (rlink want ⟨hm, hi, hn, hu, hs, he⟩ (rbody b) ⟨0, 0, 0, []⟩)).size) := infoI
    have HZ3 : Hid (zi.size = (ics ⟨hm, hi, hn, hu, hs, he⟩ (.slice none 0 0) (rtext ⟨hm, hi, hn, hu, hs, he⟩ (rbody b) ⟨#[]⟩) (rlink want ⟨hm, hi, hn, hu, hs, he⟩ (rbody b) ⟨0, 0, 0, []⟩)).size) := rfl
    clear hft
    go_wp2_with (first
      | (refine wpList_exec rfl (exec_itemAt (g := w1.heap.size + 1) rfl rfl HG7.out) ?_)
      | (refine wpList_storeRow rfl rfl w.heap.size zi (ics ⟨hm, hi, hn, hu, hs, he⟩ (.slice none 0 0) (rtext ⟨hm, hi, hn, hu, hs, he⟩ (rbody b) ⟨#[]⟩) (rlink want ⟨hm, hi, hn, hu, hs, he⟩ (rbody b) ⟨0, 0, 0, []⟩)) 115 rfl rfl HR2.out HI3.out HZ3.out HA3.out ?_))
    have hbz : Below w.heap.size w (w7.setRow w.heap.size (ics ⟨hm, hi, hn, hu, hs, he⟩ (.slice none 0 0) (rtext ⟨hm, hi, hn, hu, hs, he⟩ (rbody b) ⟨#[]⟩) (rlink want ⟨hm, hi, hn, hu, hs, he⟩ (rbody b) ⟨0, 0, 0, []⟩))) := HQ7.out.b.trans ((row_kp _ _ _).below HQ7.out.b.size (fun q e => by omega))
    exact bodyPost_ret (end_look rfl (row_same HR2.out) rfl rfl) rfl (LookP.good hbz HK.out HHH.out rfl rfl rfl (HBV.out.move (keep_below hbz)) HV1.out)
end
section
open Go.RowKit Go
theorem exec_valAt {o : Oper} {a : Act} {p : Operand} {g off : Nat} {cs : Array Value} {w : World} (ho : o.op = .load 62 p) (hp : a.eval p = .pointer (some ⟨g, off, none⟩)) (hn : cs.size = 13) (hc : ∀ j u, cs[j]? = some u → w.cell? ⟨g, off + j, none⟩ = some u) : (execOp a.eval o).run Tryz.prog w = .ok (.value (.agg cs)) w := by
  unfold execOp
  have hr := load_val (w := w) g off cs hn hc
  simp only [ho, Sem.run_bind, hp, hr, Result.andThen_ok]
  rfl
theorem wp_storeRow {o : Oper} {a : Act} {K : Act → World → Prop} {Q : Exit → Act → World → Prop} {w : World} {T : TypeId} {p x : Operand} (ho : o.op = .store T p x) (g : Nat) (old cs : Array Value) (t : TypeId)
    (hp : a.eval p = .pointer (some ⟨g, 0, none⟩)) (hx : a.eval x = .agg cs) (hg : w.heap[g]? = some (.cells old t (0, 0))) (hi : (Tryz.prog.info? T).map (·.size) = some cs.size) (hn : old.size = cs.size) (h1 : cs.all (·.oneCell') = true)
    (h : K (a.put o.dst undef) (w.setRow g cs)) : Oper.wp Tryz.prog o a w K Q := by
  unfold Oper.wp execOp
  have hr : (Instr.storeAt T (.pointer (some ⟨g, 0, none⟩)) (.agg cs)).run Tryz.prog w = .ok () (w.setRow g cs) := by
    simp only [Instr.storeAt, Instr.sureAddr, Sem.run_bind, Sem.run_pure, Result.andThen]
    exact run_storeVar_row (P := Tryz.prog) w g t T old cs hg hi hn h1
  simp only [ho, Sem.run_bind, hp, hx, hr, Result.andThen_ok]
  exact h
theorem step_storeRow {ops : Array Oper} {o : Oper} {a : Act} {K : Act → World → Prop} {Q : Exit → Act → World → Prop} {w : World} {T : TypeId} {p x : Operand} (hw : Region.wanted o (yielded ops a.tmps) = true) (ho : o.op = .store T p x) (g : Nat) (old cs : Array Value) (t : TypeId)
    (hp : a.eval p = .pointer (some ⟨g, 0, none⟩)) (hx : a.eval x = .agg cs) (hg : w.heap[g]? = some (.cells old t (0, 0))) (hi : (Tryz.prog.info? T).map (·.size) = some cs.size) (hn : old.size = cs.size) (h1 : cs.all (·.oneCell') = true)
    (h : K (a.put o.dst undef) (w.setRow g cs)) : if Region.wanted o (yielded ops a.tmps) = true then Oper.wp Tryz.prog o a w K Q else K (a.put o.dst undef) w := by
  rw [if_pos hw]
  exact wp_storeRow ho g old cs t hp hx hg hi hn h1 h
end
end Go.Proofs.YtadilnmkjcmnnaaGreatDoor
