import Derived.Test.YtbbalhfjgpaabaaGreatDoorJi
import Derived.Deep.RegionWith
import Derived.Test.YtbbalhfjgpaabaaGreatDoorJa
import Derived.Defers
import Derived.Laws.Pointers
import Derived.Laws.LoneSync
import Derived.RegionCalls
import Derived.Laws.NewBlocks
import Derived.Test.YtbbalhfjgpaabaaGreatDoorJb
import Derived.Test.YtbbalhfjgpaabaaGreatDoorJh
import Derived.Test.YtbbalhfjgpaabaaGreatDoorJg
import Derived.Test.YtbbalhfjgpaabaaGreatDoorJe
import Derived.Test.YtbbalhfjgpaabaaGreatDoorJc
namespace Go.Proofs.YtbbalhfjgpaabaaGreatDoor
section
open Go.RowKit Go
theorem row1v {ops : Array Oper} {rest : List Oper} {o : Oper} {a : Act} {w : World} {Q : Exit → Act → World → Prop} {S T : TypeId} {z : Value} {k by' : Nat} (hI : (Tryz.prog.info? T).map (fun i => (i.zero, i.size, i.bytes)) = some (some z, k, by')) (hS : Tryz.prog.underlying S = some (.slice T)) (hk : 0 < k) (hk2 : k ≤ 100) (hzs : z.cells.size = k) (hg : o.guard = none) {x : Operand} (ho : o.op = .buildSlice S 1 #[(0, x)]) {c : Array Value} {y : Value} (hyc : y.cells = c) (hx : a.eval x = y) (hc : c.size = k)
    (h : wpList Tryz.prog ops Q rest (a.put o.dst (.slice (some ⟨w.heap.size, 0, none⟩) 1 1)) (w.alloc (.cells c T))) : wpList Tryz.prog ops Q (o :: rest) a w := by
  obtain ⟨i, hi, hz, hs, _⟩ := info_ex hI
  refine wpList_buildSlice hg S T 1 _ ho c i _ hS hi hz (by rw [hs]; omega) (by rw [hs]; omega) ?_ h
  rw [hs]
  have e : (Array.map (fun (i, x) => (i, a.eval x)) #[((0 : Nat), x)]).toList = (([y] : List Value).zipIdx 0).map fun x => (x.2, x.1) := by
    simp [hx]
  rw [e]
  generalize hX : (Array.range (1 * k)).map (z.cells[· % z.cells.size]!) = X
  have hXs : X.size = k := by rw [← hX]; simp
  obtain ⟨r, hr, hsz, hk3⟩ := Great.fill_dense (s := k) hk [y] 0 X (by
    intro v hv
    rw [List.mem_singleton.1 hv]
    rw [hyc]; exact hc) (by rw [hXs]; simp)
  have e2 : r = c := by
    apply Array.ext_getElem?
    intro j
    rw [hk3 j]
    by_cases hj : j < k
    · rw [if_pos ⟨by omega, by simpa using hj⟩, Nat.div_eq_of_lt hj, Nat.mod_eq_of_lt hj]
      show y.cells[j]? = _
      rw [hyc]
    · rw [if_neg (by simp; omega), Array.getElem?_eq_none (by omega), Array.getElem?_eq_none (by omega)]
  rw [hr, e2]
theorem rlv_cells (k : Int) (tb p v : Nat) : (rlv k tb p v).cells = #[rlv k tb p v] := by
  unfold rlv
  repeat (first | rfl | split)
def itr (l : List Tp) : Nat → List ByteArray
  | 0 => onm
  | k + 1 => pas (itr l k) l
theorem nodup_lenG {α : Type} [DecidableEq α] : ∀ (L M : List α), L.Nodup → (∀ x ∈ L, x ∈ M) → L.length ≤ M.length
  | [], _, _, _ => Nat.zero_le _
  | x :: r, M, hn, hs => by
    have hx := hs x List.mem_cons_self
    have h2 := nodup_lenG r (M.erase x) (List.nodup_cons.1 hn).2 (fun y hy => (List.mem_erase_of_ne (fun e => by rw [e] at hy; exact (List.nodup_cons.1 hn).1 hy)).2 (hs y (List.mem_cons_of_mem _ hy)))
    rw [List.length_erase_of_mem hx] at h2
    have := List.length_pos_of_mem hx
    rw [List.length_cons]
    omega
theorem nodup_len (L M : List ByteArray) (h1 : L.Nodup) (h2 : ∀ x ∈ L, x ∈ M) : L.length ≤ M.length := nodup_lenG L M h1 h2
theorem pas_mem {x : ByteArray} : ∀ (ts : List Tp) (L : List ByteArray), x ∈ pas L ts → x ∈ L ∨ x ∈ ts.map (·.n)
  | [], _, h => .inl h
  | t :: r, L, h => by
    rcases pas_mem r (pas1 L t) h with h | h
    · unfold pas1 at h
      split at h
      · rcases putL_mem.1 h with rfl | h
        · exact .inr (by simp)
        · exact .inl h
      · exact .inl h
    · exact .inr (List.mem_cons_of_mem _ h)
theorem itr_mem {x : ByteArray} (l : List Tp) : ∀ k, x ∈ itr l k → x ∈ onm ∨ x ∈ l.map (·.n)
  | 0, h => .inl h
  | k + 1, h => by
    rcases pas_mem l _ h with h | h
    · exact itr_mem l k h
    · exact .inr h
theorem onm_len : onm.length = 9 := by kernel_rfl
theorem itr_len (l : List Tp) (k : Nat) (h : (itr l k).Nodup) : (itr l k).length ≤ 9 + l.length := by
  have := nodup_len (itr l k) (onm ++ l.map (·.n)) h (fun x hx => List.mem_append.2 (itr_mem l k hx))
  rw [List.length_append, List.length_map, onm_len] at this
  exact this
theorem Flr.cell {w0 : World} {q B n g cap : Nat} {L : List ByteArray} {R : List (Array Value)} {ts : List Tp} {wx : World} (h : Flr w0 q B n L (.slice (some ⟨g, 0, none⟩) ts.length cap) R ts wx) {i : Nat} {t : Tp} (hi : ts[i]? = some t) : ∃ tb p lv, wx.cell? ⟨g, i, none⟩ = some (rlv t.k tb p lv) ∧ Rlc w0 t q tb p lv wx := by
  have hil := (List.getElem?_eq_some_iff.1 hi).1
  obtain ⟨c, hc⟩ : ∃ c, R[i]? = some c := ⟨R[i]'(by rw [h.nn]; exact hil), List.getElem?_eq_getElem _⟩
  obtain ⟨tb, p, lv, rfl, h3⟩ := h.k i t c hi hc
  refine ⟨tb, p, lv, ?_, h3⟩
  rcases h.o.2 with ⟨e, _⟩ | ⟨g', cap', cur, e, _, h1, _, _, h2, h4⟩
  · cases e
  · injection e with e
    injection e with e
    injection e with e
    subst e
    have hz : ∀ c ∈ R, c.size = 1 := fun c hc => by
      obtain ⟨j, hj, e⟩ := List.getElem_of_mem hc
      obtain ⟨_, _, _, e2, _⟩ := h.k j (ts[j]'(by rw [← h.nn]; exact hj)) c (List.getElem?_eq_getElem _) (by rw [List.getElem?_eq_getElem hj, e])
      rw [e2]
      rfl
    have h5 := gfl_get hz i #[rlv t.k tb p lv] 0 (rlv t.k tb p lv) hc rfl
    rw [← h4] at h5
    rw [List.getElem?_take] at h5
    split at h5
    · exact blk_cell h1 (by simpa using h5)
    · cases h5
theorem own_size (i : Nat) (n : ByteArray) (k : Nat) (h : owns[i]? = some (n, k)) : n.size ≤ 140737488351232 := by
  rcases i with _ | _ | _ | _ | _ | _ | _ | _ | _ | i
  all_goals first
    | (simp only [owns, List.getElem?_cons_zero, List.getElem?_cons_succ, Option.some.injEq, Prod.mk.injEq] at h
       obtain ⟨rfl, rfl⟩ := h
       decide)
    | (simp [owns] at h)
theorem Flr.start (w : World) : Flr w (w.heap.size + 1) w.heap.size 0 [] (.slice none 0 0) [] [] ((w.alloc (.map #[] 0)).alloc (.cells #[.map (some w.heap.size)] 90)) := by
  have e1 : (w.alloc (.map #[] 0)).heap.size = w.heap.size + 1 := by simp
  have h := heap_alloc_new (w.alloc (.map #[] 0)) (.cells #[.map (some w.heap.size)] 90)
  rw [e1] at h
  exact ⟨World.ownsRow_nil _ _ _ _, rfl, fun i _ _ h => by simp at h, ⟨h, (Mst.made w).next (below_alloc4 _ _)⟩, (below_alloc4 w _).trans ((below_alloc4 _ _).mono (below_alloc4 w _).size), Nat.le_refl _⟩
set_option maxRecDepth 1000000 in
set_option maxHeartbeats 1000000 in
theorem filled_any (w : World) (hO : Otb w) (v : Value) (l : List Tp) (hv : TSl w v l) (h64 : l.length ≤ 64) : Calls Tryz.prog 44 #[v] w fun e w' => e = .returned (.map (some w.heap.size)) ∧ Hid (∃ n k, Mst w' w.heap.size n (itr l (k + 1)) ∧ (itr l (k + 1)).length ≤ (itr l k).length ∧ Below w.heap.size w w') := by
  have HT := hide hO.c
  have HI := hide infoOw
  have HA : Hid (∀ w, (isAgg 125).run Tryz.prog w = .ok true w) := aggOw
  have hmax := hv.max
  have HV := hide hv
  obtain ⟨⟨a, cap, rfl, _, hform⟩, _⟩ := hv
  have HF := hide hform
  clear hform hO
  have hmm := @run_makeMap Tryz.prog
  have HX := hide (Flr.start w)
  have hb0 : Below w.heap.size w ((w.alloc (.map #[] 0)).alloc (.cells #[.map (some w.heap.size)] 90)) := HX.out.b
  have HT1 : Hid (∀ j u, ocs[j]? = some u → ((w.alloc (.map #[] 0)).alloc (.cells #[.map (some w.heap.size)] 90)).cell? ⟨0, 0 + j, none⟩ = some u) := fun j u hj => keep_below hb0 _ _ (HT.out j u hj)
  clear hb0 HT
  go_enter Tryz.func44, Tryz.ntmps44
  go_wp2_with (refine wpList_aggAt rfl rfl HI.out HA.out 0 0 ocs rfl rfl HT1.out ?_)
  clear HT1 HI HA hmm
  generalize (w.alloc (.map #[] 0)).alloc (.cells #[.map (some w.heap.size)] 90) = w1 at *
  have HOC : Hid (ocs = ocs) := rfl
  generalize hoc : ocs = OC at *
  have HOE := hide hoc
  clear hoc HOC
  go_loopw [15] (fun vi wx => ∃ i : Nat, i ≤ 9 ∧ vi = .int .i64 (i : Nat) ∧ Hid (Flr w (w.heap.size + 1) w.heap.size i (snf [] ((owns.map (·.1)).take i)) (.slice none 0 0) [] [] wx)) (fun vi _ => 9 - (intOf vi).toNat)
  case atStart => exact ⟨0, by omega, rfl, HX⟩
  case round =>
    obtain ⟨i, hi, rfl, HXi⟩ := hrel
    clear HX
    by_cases hlt : i < 9
    · as_aux_lemma =>
      have g1 : (i : Int) < 9 := by omega
      obtain ⟨⟨n, k⟩, hp⟩ : ∃ p, owns[i]? = some p := ⟨owns[i]'(by have := owns_len; omega), List.getElem?_eq_getElem _⟩
      have hb1 := below_alloc4 wr (.cells #[.string n, .int .i64 (k : Nat)] 124)
      have HX1 := hide (HXi.out.next hb1)
      have HM1 := hide HX1.out.s.m
      have HS := hide (own_size i n k hp)
      have HNI : Hid (i < 140737488351232) := by show _ < _; omega
      have q0 : (wr.alloc (.cells #[.string n, .int .i64 (k : Nat)] 124)).cell? ⟨w.heap.size + 1, 0, none⟩ = some (.map (some w.heap.size)) := blk_cell (j := 0) HX1.out.s.q rfl
      have HSN : Hid (snf [] ((owns.map (·.1)).take (i + 1)) = putL (snf [] ((owns.map (·.1)).take i)) n) := snf_succ [] _ i n (by rw [List.getElem?_map, hp]; rfl)
      have HEX : Hid (∀ (o : Oper) (a : Act) (x ix : Operand) (w : World), o.op = .index 125 x ix → a.eval x = .agg OC → a.eval ix = .int .i64 (i : Nat) → (execOp a.eval o).run Tryz.prog w = .ok (.value (.agg #[.string n, .int .i64 (k : Nat)])) w) := fun o a x ix w h1 h2 h3 => exec_own hp h1 (h2.trans (by rw [HOE.out])) h3
      clear hp hb1 HXi
      go_wp2_with (first
        | (refine wpList_ex rfl (HEX.out _ _ _ _ _ rfl rfl rfl) ?_)
        | (refine wpList_putS rfl rfl rfl rfl rfl HM1.out HS.out HNI.out ?_; intro w2 hm1 hk1))
      have HX2 : Hid (Flr w (w.heap.size + 1) w.heap.size (i + 1) (snf [] ((owns.map (·.1)).take (i + 1))) (.slice none 0 0) [] [] w2) := by
        show Flr _ _ _ _ _ _ _ _ _
        rw [HSN.out]
        exact HX1.out.put hk1 hm1
      clear hk1 hm1 HX1 HM1 q0
      go_wp2_with fail
      go_roundw
      case rel => exact ⟨i + 1, by omega, by go_num, HX2⟩
      case measure => simp [intOf]; omega
    · as_aux_lemma =>
      have g1 : ¬ (i : Int) < 9 := by omega
      have HX3 : Hid (Flr w (w.heap.size + 1) w.heap.size 9 onm (.slice none 0 0) [] [] wr) := by
        have e : i = 9 := by omega
        subst e
        exact HXi.out
      clear HXi hi hlt HOE
      go_wp2_with fail
      go_loopw [7, 26] (fun vo vi wx => ∃ (i : Nat) (a0 : Option Addr) (n0 c0 : Nat) (R : List (Array Value)), i ≤ l.length ∧ vo = .slice a0 n0 c0 ∧ vi = .int .i64 (i : Nat) ∧ Hid (Flr w (w.heap.size + 1) w.heap.size 9 onm (.slice a0 n0 c0) R (l.take i) wx)) (fun _ vi _ => l.length - (intOf vi).toNat)
      case atStart => exact ⟨0, none, 0, 0, [], by omega, rfl, rfl, HX3⟩
      case round =>
        obtain ⟨i, a0, n0, c0, R, hi, rfl, rfl, HXi⟩ := hrel
        clear HX3
        by_cases hlt : i < l.length
        · as_aux_lemma =>
          have g1 : (i : Int) < (l.length : Int) := by omega
          obtain ⟨t, ht⟩ : ∃ t, l[i]? = some t := ⟨l[i], List.getElem?_eq_getElem hlt⟩
          obtain ⟨b, off, rfl, hcc⟩ := HF.out.resolve_left (fun h => by rw [h] at hlt; simp at hlt)
          obtain ⟨c, hc, hcell⟩ := hcc i t ht
          have HC := hide hc
          obtain ⟨⟨vf, vc, vw, rfl, ⟨⟨af, cf, rfl, -, -⟩, -⟩, ⟨⟨ac, cc, rfl, -, -⟩, -⟩, ⟨⟨aw, cw, rfl, -, -⟩, -, -⟩⟩, -⟩ := hc
          unfold tpc at hcell HC
          have hbw : Below w.heap.size w wr := HXi.out.b
          have HCL : Hid (∀ j u, (#[.string t.n, .int .i64 t.k, .int .i64 t.lo, .int .i64 t.hi, .string t.r.n, .bool t.r.z, .slice af t.fs.length cf, .slice ac t.cs.length cc, .slice aw t.ws.length cw] : Array Value)[j]? = some u → wr.cell? ⟨b, off + i * 9 + j, none⟩ = some u) := fun j u hj => keep_below hbw _ _ (hcell j u hj)
          have hb2 := below_alloc4 wr (.cells #[.string t.n, .int .i64 t.k, .int .i64 t.lo, .int .i64 t.hi, .string t.r.n, .bool t.r.z, .slice af t.fs.length cf, .slice ac t.cs.length cc, .slice aw t.ws.length cw] 69)
          have HC2 : Hid (Tpi (wr.alloc (.cells #[.string t.n, .int .i64 t.k, .int .i64 t.lo, .int .i64 t.hi, .string t.r.n, .bool t.r.z, .slice af t.fs.length cf, .slice ac t.cs.length cc, .slice aw t.ws.length cw] 69)) t #[.string t.n, .int .i64 t.k, .int .i64 t.lo, .int .i64 t.hi, .string t.r.n, .bool t.r.z, .slice af t.fs.length cf, .slice ac t.cs.length cc, .slice aw t.ws.length cw]) := HC.out.move (keep_below (hbw.trans (hb2.mono hbw.size)))
          have HX2 := hide (HXi.out.next hb2)
          have HTC : Hid (∀ j u, (#[.string t.n, .int .i64 t.k, .int .i64 t.lo, .int .i64 t.hi, .string t.r.n, .bool t.r.z, .slice af t.fs.length cf, .slice ac t.cs.length cc, .slice aw t.ws.length cw] : Array Value)[j]? = some u → (wr.alloc (.cells #[.string t.n, .int .i64 t.k, .int .i64 t.lo, .int .i64 t.hi, .string t.r.n, .bool t.r.z, .slice af t.fs.length cf, .slice ac t.cs.length cc, .slice aw t.ws.length cw] 69)).cell? ⟨wr.heap.size, 0 + j, none⟩ = some u) := fun j u hu => by rw [Nat.zero_add]; exact blk_cell (heap_alloc_new wr _) hu
          have HTK := hide (takeP l i t ht)
          have HLL : Hid (R.length ≤ 1000000) := by
            have h1 := HXi.out.nn
            rw [List.length_take] at h1
            show _ ≤ _
            omega
          have HIT := hide infoTp
          have HAT : Hid (∀ w, (isAgg 69).run Tryz.prog w = .ok true w) := aggTp
          clear hcc hcell ht HXi HF hb2 hbw
          go_wp2_with (first
            | (refine wpList_aggAt rfl rfl HIT.out HAT.out b (off + i * 9) #[.string t.n, .int .i64 t.k, .int .i64 t.lo, .int .i64 t.hi, .string t.r.n, .bool t.r.z, .slice af t.fs.length cf, .slice ac t.cs.length cc, .slice aw t.ws.length cw] rfl rfl HCL.out ?_)
            | (refine wpList_aggAt rfl rfl HIT.out HAT.out wr.heap.size 0 #[.string t.n, .int .i64 t.k, .int .i64 t.lo, .int .i64 t.hi, .string t.r.n, .bool t.r.z, .slice af t.fs.length cf, .slice ac t.cs.length cc, .slice aw t.ws.length cw] rfl rfl HTC.out ?_))
          generalize wr.alloc (.cells #[.string t.n, .int .i64 t.k, .int .i64 t.lo, .int .i64 t.hi, .string t.r.n, .bool t.r.z, .slice af t.fs.length cf, .slice ac t.cs.length cc, .slice aw t.ws.length cw] 69) = w2 at *
          refine (rule_any (w.heap.size + 1) t _ w2 HC2.out).mono ?_
          rintro e w3 ⟨rfl, hP⟩
          have HP := hide (hP.out.1.rlc HC.out)
          have HX3 := hide (HX2.out.next hP.out.2)
          clear hP HCL HTC HC2 HC HX2
          generalize w2.heap.size = tb at *
          generalize tb + 1 + 1 = lv at *
          generalize tb + 1 = pb at *
          generalize hy : rlv t.k tb pb lv = y at *
          have HY := hide hy
          have hb4 := below_alloc4 w3 (.cells #[y] 26)
          have HX4 := hide (HX3.out.next hb4)
          have HP4 := hide (HP.out.next hb4)
          have HYC : Hid (y.cells = #[y]) := by show _ = _; rw [← hy]; exact rlv_cells _ _ _ _
          have HY1 : Hid (∀ u ∈ (#[y] : Array Value).toList, u.oneCell' = true) := fun u hu => by
            have e : u = y := by simpa using hu
            rw [e, ← hy]
            exact rlv_one _ _ _ _
          have HAL : Hid (w.heap.size ≤ (w3.alloc (.cells #[y] 26)).heap.size) := HX4.out.b.size
          have HAP : Hid (∀ (ops : Array Oper) (rest : List Oper) (o : Oper) (ac : Act) (Q : Exit → Act → World → Prop) (s x : Operand), o.guard = none → o.op = .call { callee := .builtin .append, args := #[s, x], argTypes := #[139, 139] } → ac.eval s = .slice a0 n0 c0 → ac.eval x = .slice (some ⟨w3.heap.size, 0, none⟩) 1 1 → (∀ v' w', Flr w (w.heap.size + 1) w.heap.size 9 onm v' (R ++ [#[y]]) (l.take (i + 1)) w' → wpList Tryz.prog ops Q rest (ac.put o.dst v') w') → wpList Tryz.prog ops Q (o :: rest) ac (w3.alloc (.cells #[y] 26))) := fun ops rest o ac Q s x h1 h2 h3 h4 h5 =>
            append_g infoFb Tryz.underlying139 rfl (by decide) (by decide) h1 h2 h3 HX4.out.o h4 (heap_alloc_new w3 _) rfl HY1.out HLL.out HAL.out (fun v' w' h6 h7 _ => h5 v' w' (by rw [HTK.out, ← HY.out]; rw [← HY.out] at h6; exact HX4.out.app h7 h6 HP4.out))
          clear hb4 hy HX3 HP
          go_wp2_with (first
            | (refine row1v infoFb Tryz.underlying139 (by decide) (by decide) rfl rfl rfl (c := #[y]) HYC.out rfl rfl ?_)
            | (refine HAP.out _ _ _ _ _ _ _ rfl rfl rfl rfl ?_; intro v' w' hr'))
          obtain ⟨a2, c2, hv0, _⟩ := own_formG hr'.o
          subst hv0
          have HR' := hide hr'
          clear hr' HAP HX4 HP4
          go_wp2_with fail
          go_roundw
          case rel => exact ⟨i + 1, _, _, _, _, by omega, rfl, by go_num, HR'⟩
          case measure => simp [intOf]; omega
        · as_aux_lemma =>
          have g1 : ¬ (i : Int) < (l.length : Int) := by omega
          have HX4 : Hid (Flr w (w.heap.size + 1) w.heap.size 9 onm (.slice a0 n0 c0) R l wr) := by have h := HXi.out; rw [List.take_of_length_le (by omega)] at h; exact h
          clear HXi hlt
          obtain ⟨hn0, hg0⟩ : n0 = l.length ∧ (0 < l.length → ∃ g, a0 = some ⟨g, 0, none⟩) := by
            obtain ⟨a2, c2, he, hg⟩ := own_formG HX4.out.o
            injection he with e1 e2 e3
            subst e1
            rw [HX4.out.nn] at e2 hg
            exact ⟨e2, hg⟩
          subst hn0
          have HG0 := hide hg0
          clear hg0
          go_wp2_with fail
          clear g1 hi
          go_loopw [10] (fun vb wx => ∃ (b k n : Nat), vb = .int .i64 (b : Nat) ∧ n ≤ 9 + k * 64 ∧ k ≤ b ∧ b ≤ 9 + l.length ∧ Hid ((b = 0 ∧ k = 0) ∨ ∃ k', k = k' + 1 ∧ b = (itr l k').length) ∧ Hid (Flr w (w.heap.size + 1) w.heap.size n (itr l k) (.slice a0 l.length c0) R l wx)) (fun vb _ => 9 + l.length + 1 - (intOf vb).toNat)
          case atStart => exact ⟨0, 0, 9, rfl, by omega, by omega, by omega, .inl ⟨rfl, rfl⟩, HX4⟩
          case round =>
            obtain ⟨b, k, n, rfl, hn, hkb, hb9, HBK, HXk⟩ := hrel
            clear HX4
            have HM := hide HXk.out.s.m
            have q0 : wr.cell? ⟨w.heap.size + 1, 0, none⟩ = some (.map (some w.heap.size)) := blk_cell (j := 0) HXk.out.s.q rfl
            have hle := itr_len l k HXk.out.s.m.1
            by_cases hlt : b < (itr l k).length
            · as_aux_lemma =>
              have g1 : (b : Int) < ((itr l k).length : Int) := by omega
              go_wp2_with (refine wpList_lenS rfl rfl rfl HM.out ?_)
              clear g1
              have HX0 : Hid (Flr w (w.heap.size + 1) w.heap.size n (pas (itr l k) (l.take 0)) (.slice a0 l.length c0) R l wr) := HXk.out
              clear HXk HM q0
              go_loopw [45] (fun vj wz => ∃ j n' : Nat, j ≤ l.length ∧ vj = .int .i64 (j : Nat) ∧ n' ≤ 9 + k * 64 + j ∧ Hid (Flr w (w.heap.size + 1) w.heap.size n' (pas (itr l k) (l.take j)) (.slice a0 l.length c0) R l wz)) (fun vj _ => l.length - (intOf vj).toNat)
              case atStart => exact ⟨0, n, by omega, rfl, by omega, HX0⟩
              case round =>
                obtain ⟨j, n', hj, rfl, hn', HXj⟩ := hrel
                clear HX0
                by_cases hjl : j < l.length
                · as_aux_lemma =>
                  have g2 : (j : Int) < (l.length : Int) := by omega
                  obtain ⟨t, ht⟩ : ∃ t, l[j]? = some t := ⟨l[j], List.getElem?_eq_getElem hjl⟩
                  obtain ⟨g, rfl⟩ := HG0.out (by omega)
                  obtain ⟨tb, p, lv, hcell, hr⟩ := HXj.out.cell ht
                  obtain ⟨c, hrb⟩ := hr.rlb HXj.out.b
                  obtain ⟨fn, caps, hfn, hent, hcall⟩ := rlv_calls hrb HXj.out.s
                  rw [hfn] at hcell
                  have HCA := hide hcall
                  obtain ⟨bt, off, rfl, hcc⟩ := HF.out.resolve_left (fun h => by rw [h] at hjl; simp at hjl)
                  obtain ⟨c2, hc2, hcl⟩ := hcc j t ht
                  have HTN := hide hc2.b.n
                  have hc0 : w.cell? ⟨bt, off + j * 9, none⟩ = some (.string t.n) := by
                    obtain ⟨⟨vf, vc, vw, rfl, _⟩, _⟩ := hc2
                    exact hcl 0 (.string t.n) rfl
                  have HC0 := hide hc0
                  have HPS := hide (pas_succ (itr l k) l j t ht)
                  have HN9 : Hid (n' < 140737488351232) := by
                    show _ < _
                    have : k ≤ 73 := by omega
                    omega
                  clear hr hrb hfn hcall hcc hc2 hcl hc0 ht HF
                  go_wp2_with fail
                  refine HCA.out.mono ?_
                  rintro e w5 ⟨rfl, hb5⟩
                  have HX5 := hide (HXj.out.next hb5)
                  clear hb5 HCA hcell HXj hent
                  have q5 : w5.cell? ⟨w.heap.size + 1, 0, none⟩ = some (.map (some w.heap.size)) := blk_cell (j := 0) HX5.out.s.q rfl
                  have c5 : w5.cell? ⟨bt, off + j * 9, none⟩ = some (.string t.n) := keep_below HX5.out.b _ _ HC0.out
                  have HM5 := hide HX5.out.s.m
                  rcases Bool.eq_false_or_eq_true (rulb (pas (itr l k) (l.take j)) t) with hru | hru
                  · have HPE : Hid (pas (itr l k) (l.take (j + 1)) = putL (pas (itr l k) (l.take j)) t.n) := by
                      show _ = _
                      rw [HPS.out]
                      unfold pas1
                      rw [if_pos hru]
                    rw [hru]
                    clear hru HPS
                    have hmd : Mst w5.drew w.heap.size n' (pas (itr l k) (l.take j)) := HM5.out.block rfl
                    obtain ⟨w6, hrun6, hm6, hk6d⟩ := hmd.put HTN.out HN9.out
                    have hk6 : Kp (fun q => q = w.heap.size) w5 w6 := (Kp.refl _ w5).drew.trans hk6d (fun _ _ h => h)
                    clear hmd hk6d
                    go_wp2_with fail
                    go_region
                    have HX6 : Hid (Flr w (w.heap.size + 1) w.heap.size (n' + 1) (pas (itr l k) (l.take (j + 1))) (.slice (some ⟨g, 0, none⟩) l.length c0) R l w6) := by
                      show Flr _ _ _ _ _ _ _ _ _
                      rw [HPE.out]
                      exact HX5.out.put hk6 hm6
                    clear hk6 hm6 HX5 HM5 q5 c5
                    go_wp2_with fail
                    go_roundw
                    case rel => exact ⟨j + 1, n' + 1, by omega, by go_num, by omega, HX6⟩
                    case measure => simp [intOf]; omega
                  · have HX6 : Hid (Flr w (w.heap.size + 1) w.heap.size n' (pas (itr l k) (l.take (j + 1))) (.slice (some ⟨g, 0, none⟩) l.length c0) R l w5) := by
                      show Flr _ _ _ _ _ _ _ _ _
                      rw [HPS.out]
                      unfold pas1
                      rw [hru, if_neg (by decide)]
                      exact HX5.out
                    rw [hru]
                    clear hru HPS HX5 HM5 q5 c5
                    go_wp2_with fail
                    go_roundw
                    case rel => exact ⟨j + 1, n', by omega, by go_num, by omega, HX6⟩
                    case measure => simp [intOf]; omega
                · as_aux_lemma =>
                  have g2 : ¬ (j : Int) < (l.length : Int) := by omega
                  have HX7 : Hid (Flr w (w.heap.size + 1) w.heap.size n' (itr l (k + 1)) (.slice a0 l.length c0) R l wr) := by
                    have h := HXj.out
                    rw [List.take_of_length_le (by omega)] at h
                    exact h
                  clear HXj HF
                  go_wp2_with fail
                  go_roundw
                  case rel => exact ⟨(itr l k).length, k + 1, n', rfl, by omega, by omega, by omega, .inr ⟨k, rfl, rfl⟩, HX7⟩
                  case measure => simp [intOf]; omega
            · as_aux_lemma =>
              have g1 : ¬ (b : Int) < ((itr l k).length : Int) := by omega
              have HE : Hid (∃ k', k = k' + 1 ∧ (itr l (k' + 1)).length ≤ (itr l k').length) := by
                rcases HBK.out with ⟨h1, h2⟩ | ⟨k', h1, h2⟩
                · exfalso
                  subst h2
                  have := onm_len
                  have e : itr l 0 = onm := rfl
                  rw [e] at hlt
                  omega
                · subst h1
                  exact ⟨k', rfl, by omega⟩
              clear HBK hlt hkb
              go_wp2_with (refine wpList_lenS rfl rfl rfl HM.out ?_)
              go_ret
              obtain ⟨k', hk', hle'⟩ := HE.out
              subst hk'
              exact ⟨rfl, n, k', HM.out, hle', HXk.out.b⟩
end
section
open Go.RowKit Go
theorem putL_len (L : List ByteArray) (s : ByteArray) : L.length ≤ (putL L s).length := by
  unfold putL
  split
  · exact Nat.le_refl _
  · rw [List.length_cons]; omega
theorem putL_same {L : List ByteArray} {s : ByteArray} (h : (putL L s).length ≤ L.length) : putL L s = L ∧ s ∈ L := by
  unfold putL at *
  split at h
  · next hm => exact ⟨by rw [if_pos hm], memb_iff.1 hm⟩
  · rw [List.length_cons] at h; omega
theorem pas1_len (L : List ByteArray) (t : Tp) : L.length ≤ (pas1 L t).length := by
  unfold pas1
  split
  · exact putL_len L t.n
  · exact Nat.le_refl _
theorem pas_len : ∀ (ts : List Tp) (L : List ByteArray), L.length ≤ (pas L ts).length
  | [], _ => Nat.le_refl _
  | t :: r, L => Nat.le_trans (pas1_len L t) (pas_len r (pas1 L t))
theorem pas1_same {L : List ByteArray} {t : Tp} (h : (pas1 L t).length ≤ L.length) : pas1 L t = L ∧ (rulb L t = true → t.n ∈ L) := by
  unfold pas1 at *
  split at h
  · next hr =>
    have h2 := putL_same h
    exact ⟨by rw [if_pos hr]; exact h2.1, fun _ => h2.2⟩
  · next hr => exact ⟨by rw [if_neg hr], fun e => absurd e hr⟩
theorem pas_same : ∀ (ts : List Tp) (L : List ByteArray), (pas L ts).length ≤ L.length → pas L ts = L ∧ ∀ t ∈ ts, rulb L t = true → t.n ∈ L
  | [], _, _ => ⟨rfl, fun _ h => by simp at h⟩
  | t :: r, L, h => by
    have h1 : (pas1 L t).length ≤ L.length := Nat.le_trans (pas_len r (pas1 L t)) h
    obtain ⟨e1, h2⟩ := pas1_same h1
    have e : pas L (t :: r) = pas (pas1 L t) r := rfl
    rw [e, e1] at h
    obtain ⟨e3, h4⟩ := pas_same r L h
    refine ⟨by rw [e, e1]; exact e3, fun u hu => ?_⟩
    rcases List.mem_cons.1 hu with rfl | hu
    · exact h2
    · exact h4 u hu
theorem itr_closed (l : List Tp) (k : Nat) (h : (itr l (k + 1)).length ≤ (itr l k).length) : itr l (k + 1) = itr l k ∧ ∀ t ∈ l, rulb (itr l (k + 1)) t = true → t.n ∈ itr l (k + 1) := by
  obtain ⟨e, h2⟩ := pas_same l (itr l k) h
  have e' : itr l (k + 1) = itr l k := e
  rw [e']
  exact ⟨rfl, h2⟩
theorem lck_mono {L M : List ByteArray} (hs : ∀ x ∈ L, x ∈ M) {r : Rf} (h : lck L r = false) : lck M r = false := by
  unfold lck at *
  cases hz : r.z with
  | true => rfl
  | false =>
    rw [hz] at h
    have hm : memb L r.n = true := by simpa using h
    have := memb_iff.2 (hs _ (memb_iff.1 hm))
    rw [this]
    rfl
theorem rulb_mono {L M : List ByteArray} (hs : ∀ x ∈ L, x ∈ M) {t : Tp} (h : rulb L t = true) : rulb M t = true := by
  unfold rulb at *
  split
  · next k1 =>
    rw [if_pos k1] at h
    have h1 : lck L t.r = false := by simpa using h
    rw [lck_mono hs h1]
    rfl
  next k1 =>
  rw [if_neg k1] at h
  split
  · next k3 =>
    rw [if_pos k3] at h
    rcases Bool.or_eq_true_iff.1 h with h | h
    · rw [h]; rfl
    · have h1 : lck L t.r = false := by simpa using h
      rw [lck_mono hs h1]
      simp
  next k3 =>
  rw [if_neg k3] at h
  split
  · next k5 =>
    rw [if_pos k5] at h
    have h1 : (t.fs.any fun f => !f.m && lck L f.r) = false := by simpa using h
    have h2 : (t.fs.any fun f => !f.m && lck M f.r) = false := by
      rw [List.any_eq_false] at h1 ⊢
      intro f hf he
      refine h1 f hf ?_
      cases hm : f.m with
      | true => rw [hm] at he; simp at he
      | false =>
        rw [hm] at he
        cases hl : lck L f.r with
        | true => rfl
        | false => rw [lck_mono hs hl] at he; simp at he
    rw [h2]
    rfl
  next k5 =>
  rw [if_neg k5] at h
  split
  · next k7 =>
    rw [if_pos k7] at h
    rw [List.any_eq_true] at h ⊢
    obtain ⟨c, hc, hm⟩ := h
    exact ⟨c, hc, memb_iff.2 (hs _ (memb_iff.1 hm))⟩
  · rfl
theorem pas_least {M : List ByteArray} : ∀ (ts : List Tp) (L : List ByteArray), (∀ x ∈ L, x ∈ M) → (∀ t ∈ ts, rulb M t = true → t.n ∈ M) → ∀ x ∈ pas L ts, x ∈ M
  | [], _, h, _ => h
  | t :: r, L, h, hc => by
    refine pas_least r (pas1 L t) (fun x hx => ?_) (fun u hu => hc u (List.mem_cons_of_mem _ hu))
    unfold pas1 at hx
    split at hx
    · next hr =>
      rcases putL_mem.1 hx with rfl | hx
      · exact hc t List.mem_cons_self (rulb_mono h hr)
      · exact h x hx
    · exact h x hx
theorem itr_least (l : List Tp) {M : List ByteArray} (h0 : ∀ x ∈ onm, x ∈ M) (hc : ∀ t ∈ l, rulb M t = true → t.n ∈ M) : ∀ k, ∀ x ∈ itr l k, x ∈ M
  | 0 => h0
  | k + 1 => pas_least l (itr l k) (itr_least l h0 hc k) hc
end
section
open Go.RowKit Go
structure Fld (w w' : World) (g M : Nat) (l : List Tp) (vt : Value) (Bm : Nat) (d e f : Value) : Prop where
  r : w'.heap[g]? = some (.cells #[vt, .map (some Bm), d, e, f, .map (some M)] 92 (0, 0))
  m : ∃ n k, Mst w' M n (itr l (k + 1)) ∧ (itr l (k + 1)).length ≤ (itr l k).length
  k : Kp (fun q => q = g) w w'
  n : w.heap.size ≤ M
set_option maxRecDepth 1000000 in
set_option maxHeartbeats 1000000 in
theorem filledOf_any (w : World) (hO : Otb w) (b g : Nat) (vt : Value) (Bm : Nat) (l : List Tp) (d e f m : Value) (hb : w.heap[b]? = some (.cells #[.pointer (some ⟨g, 0, none⟩)] 48 (0, 0))) (hg : w.heap[g]? = some (.cells #[vt, .map (some Bm), d, e, f, m] 92 (0, 0))) (hv : TSl w vt l) (h64 : l.length ≤ 64) : Calls Tryz.prog 43 #[.pointer (some ⟨b, 0, none⟩)] w fun x w' => x = .returned (.tuple #[]) ∧ Hid (Fld w w' g w.heap.size l vt Bm d e f) := by
  have HCA := hide (filled_any w.drew ⟨fun j u hj => hO.c j u hj⟩ vt l (hv.mv (fun _ _ h => h)) h64)
  have HB := hide hb
  have HG := hide hg
  obtain ⟨⟨a, cap, rfl, _, _⟩, _⟩ := hv
  have q0 : w.cell? ⟨b, 0, none⟩ = some (.pointer (some ⟨g, 0, none⟩)) := blk_cell (j := 0) hb rfl
  have q1 : w.cell? ⟨g, 0, none⟩ = some (.slice a l.length cap) := blk_cell (j := 0) hg rfl
  clear hO hb hg
  go_enter Tryz.func43, Tryz.ntmps43
  go_region_with (first
    | (go_at_call 44
       refine HCA.out.mono ?_
       rintro e w6 ⟨rfl, hP⟩
       obtain ⟨n, k, hm, hle, hbl⟩ := hP.out
       have hbl' : Below w.heap.size w w6 := (Below.refl _ w).drew.trans hbl
       have HM6 : Hid (Mst w6 w.heap.size n (itr l (k + 1))) := hm
       have HLE := hide hle
       have HBL := hide hbl'
       have HG6 := hide ((hbl'.block _ (blk_lt HG.out)).trans HG.out)
       have t0 : w6.cell? ⟨b, 0, none⟩ = some (.pointer (some ⟨g, 0, none⟩)) := blk_cell (j := 0) ((hbl'.block _ (blk_lt HB.out)).trans HB.out) rfl
       have t5 : w6.cell? ⟨g, 5, none⟩ = some m := blk_cell (j := 5) HG6.out rfl
       have p5 := blk_frozen 5 HG6.out
       clear hP hm hle hbl hbl'))
  all_goals
    have hk : Kp (fun q => q = g) w (w6.setCell ⟨g, 5, none⟩ (.map (some w.heap.size))) := (Kp.mono (Kp.of_below (S := fun _ => False) HBL.out) (fun _ _ e => e.elim)).setCell _ _ (fun _ => rfl)
    have HF : Hid (Fld w (w6.setCell ⟨g, 5, none⟩ (.map (some w.heap.size))) g w.heap.size l (.slice a l.length cap) Bm d e f) := ⟨blk_set 5 _ HG6.out, ⟨n, k, HM6.out.kp ((Kp.refl (fun q => q = g) w6).setCell _ _ (fun _ => rfl)) (fun e => by have e' : w.heap.size = g := e; have := blk_lt HG.out; omega), HLE.out⟩, hk, Nat.le_refl _⟩
    go_wp2_with fail
    go_end0
    exact ⟨rfl, HF.out⟩
end
section
open Go.RowKit Go
theorem raceOff (w : World) : (callFunc 188 #[]).run Tryz.prog w = .ok (.value (.tuple #[])) w := run_call_mark0 Tryz.func188 (by kernel_rfl) (by kernel_rfl) (by kernel_rfl) .disable (by kernel_rfl) w
theorem raceOn (w : World) : (callFunc 190 #[]).run Tryz.prog w = .ok (.value (.tuple #[])) w := run_call_mark0 Tryz.func190 (by kernel_rfl) (by kernel_rfl) (by kernel_rfl) .enable (by kernel_rfl) w
theorem raceGet (a : Addr) (w : World) : (callFunc 191 #[.pointer (some a)]).run Tryz.prog w = .ok (.value (.tuple #[])) w := run_call_marked Tryz.func191 (by kernel_rfl) (by kernel_rfl) (by kernel_rfl) .acquire (by kernel_rfl) a w
theorem racePut (a : Addr) (w : World) : (callFunc 193 #[.pointer (some a)]).run Tryz.prog w = .ok (.value (.tuple #[])) w := run_call_marked Tryz.func193 (by kernel_rfl) (by kernel_rfl) (by kernel_rfl) .releaseMerge (by kernel_rfl) a w
set_option maxRecDepth 1000000 in
theorem lockFree (a : Addr) (w : World) (hc : w.cell? a = some (.int .i32 0)) (hz : w.frozen? a = false) : Calls Tryz.prog 147 #[.pointer (some a)] w fun e w' => e = .returned (.tuple #[]) ∧ w' = w.setCell a (.int .i32 1) := by
  have hd := raceOff
  have he := raceOn
  have ha := raceGet
  have hcas := run_call_cas_hit (P := Tryz.prog) Tryz.func189 (by kernel_rfl) (by kernel_rfl) (by kernel_rfl) .i32 (by kernel_rfl) (y := 1) hc hz
  have hc' : (w.setCell a (.int .i32 1)).cell? a = some (.int .i32 1) := World.cell?_setCell_same w a _ hc
  have hcv := run_convert_to_unsafe (P := Tryz.prog) (src := 243) (dst := 247) Tryz.underlying243 Tryz.underlying247 (by kernel_rfl) hc'
  go_enter Tryz.func147, Tryz.ntmps147
  go_wp2
  first | go_end0 | (simp only [Exit.inBlock, Exit.then]; refine bodyPost_ret (results_none rfl _ _ _) rfl ?_) | refine bodyPost_ret (results_none rfl _ _ _) rfl ?_
  go_wp2
  go_end0
  exact ⟨rfl, rfl⟩
set_option maxRecDepth 1000000 in
theorem unlockLate (a : Addr) (u : FrameMode) (w : World) (hc : w.cell? a = some (.int .i32 1)) (hz : w.frozen? a = false) : CallsD Tryz.prog 148 #[.pointer (some a)] u w fun e u' w' => u' = u ∧ (e = .returned (.tuple #[]) ∧ w' = w.setCell a (.int .i32 0)) := by
  have hd := raceOff
  have he := raceOn
  have hr := racePut
  have hadd := run_call_add (P := Tryz.prog) Tryz.func194 (by kernel_rfl) (by kernel_rfl) (by kernel_rfl) .i32 (by kernel_rfl) (y := -1) (s := 0) hc hz (by simp [go_sem]; rfl)
  have hcv := run_convert_to_unsafe (P := Tryz.prog) (src := 243) (dst := 247) Tryz.underlying243 Tryz.underlying247 (by kernel_rfl) hc
  go_enter_d Tryz.func148, Tryz.ntmps148
  go_wp2
  go_end0
  go_wp2
  go_end0
  exact ⟨rfl, rfl⟩
end
section
open Go.RowKit Go
set_option maxRecDepth 1000000 in
theorem done_any (a : Addr) (d : Int) (w : World) (hc : w.cell? a = some (.int .u32 d)) : Calls Tryz.prog 105 #[.pointer (some a)] w fun e w' => e = .returned (.bool (d != 0)) ∧ w' = w := by
  have hl := run_call_load (P := Tryz.prog) Tryz.func146 (by kernel_rfl) (by kernel_rfl) (by kernel_rfl) .u32 (by kernel_rfl) (w := w) (a := a) (x := d) hc
  go_enter Tryz.func105, Tryz.ntmps105
  go_wp2
  go_ret
  exact ⟨rfl, rfl⟩
set_option maxRecDepth 1000000 in
theorem storeLate (a : Addr) (x : Value) (u : FrameMode) (w : World) (hc : w.cell? a = some x) (hz : w.frozen? a = false) : CallsD Tryz.prog 149 #[.pointer (some a), .bool true] u w fun e u' w' => u' = u ∧ (e = .returned (.tuple #[]) ∧ w' = w.drew.setCell a (.int .u32 1)) := by
  have hc' : w.drew.cell? a = some x := by go_simp
  have hz' : w.drew.frozen? a = false := by go_simp
  have hst := run_call_store (P := Tryz.prog) Tryz.func177 (by kernel_rfl) (by kernel_rfl) (by kernel_rfl) (by kernel_rfl) (k := .u32) (y := 1) hc' hz'
  go_enter_d Tryz.func149, Tryz.ntmps149
  go_wp2
  go_region_calls
  all_goals (go_end0; exact ⟨rfl, rfl⟩)
end
section
open Go.RowKit Go
set_option maxRecDepth 1000000 in
set_option maxHeartbeats 1600000 in
theorem slow11_any (w : World) (b g : Nat) (vt : Value) (Bm : Nat) (l : List Tp) (m : Value) (hb : w.heap[b]? = some (.cells #[.pointer (some ⟨g, 0, none⟩)] 48 (0, 0))) (hg : w.heap[g]? = some (.cells #[vt, .map (some Bm), .int .u32 0, .int .i32 0, .int .u32 0, m] 92 (0, 0))) (hTk : ∀ wy, Kp (fun q => q = g) w wy → TSl wy vt l) (hOk : ∀ wy, Kp (fun q => q = g) w wy → Otb wy) (h64 : l.length ≤ 64) : Calls Tryz.prog 106 #[.pointer (some ⟨g, 2, none⟩), .func (.func 43) #[] #[.pointer (some ⟨b, 0, none⟩)]] w fun x w' => x = .returned (.tuple #[]) ∧ Hid (Fld w w' g w.heap.size l vt Bm (.int .u32 1) (.int .i32 0) (.int .u32 0)) := by
  have hbg : b ≠ g := fun e => by
    rw [e, hg] at hb
    injection hb with hb
    injection hb with hb
    have := congrArg Array.size hb
    simp at this
  have hk1 : Kp (fun q => q = g) w (w.setCell ⟨g, 3, none⟩ (.int .i32 1)) := (Kp.refl _ w).setCell _ _ (fun _ => rfl)
  have hg1 : (w.setCell ⟨g, 3, none⟩ (.int .i32 1)).heap[g]? = some (.cells #[vt, .map (some Bm), .int .u32 0, .int .i32 1, .int .u32 0, m] 92 (0, 0)) := blk_set 3 _ hg
  have hb1 : (w.setCell ⟨g, 3, none⟩ (.int .i32 1)).heap[b]? = some (.cells #[.pointer (some ⟨g, 0, none⟩)] 48 (0, 0)) := blk_other 3 _ hb hbg
  have HCA := hide (filledOf_any _ (hOk _ hk1) b g vt Bm l _ _ _ m hb1 hg1 (hTk _ hk1) h64)
  have c3 : w.cell? ⟨g, 3, none⟩ = some (.int .i32 0) := blk_cell (j := 3) hg rfl
  have f3 := blk_frozen 3 hg
  have d2 : (w.setCell ⟨g, 3, none⟩ (.int .i32 1)).cell? ⟨g, 2, none⟩ = some (.int .u32 0) := blk_cell (j := 2) hg1 rfl
  have hsz : (w.setCell ⟨g, 3, none⟩ (.int .i32 1)).heap.size = w.heap.size := by simp
  have HSZ := hide hsz
  have HK1 := hide hk1
  have hnot : ∀ (x : Bool) (w : World), (Op.unary .not (.bool x)).run Tryz.prog w = .ok (.bool (!x)) w := fun _ _ => rfl
  have HGL : Hid (g < w.heap.size) := blk_lt hg
  clear hb hg hTk hOk hbg hk1 hg1 hb1 hsz
  go_enter_defers Tryz.func106, Tryz.ntmps106
  go_wp2_with (first
    | (go_at_call 147; refine (lockFree ⟨g, 3, none⟩ _ c3 f3).mono ?_; rintro e w' ⟨rfl, rfl⟩)
    | (go_at_call 105; refine (done_any ⟨g, 2, none⟩ 0 _ d2).mono ?_; rintro e w' ⟨rfl, rfl⟩)
    | (go_at_call 43; refine HCA.out.mono ?_; rintro e w2 ⟨rfl, hP⟩))
  have hF := hP.out
  rw [HSZ.out] at hF
  have hr := hF.r
  have e2 : w2.cell? ⟨g, 2, none⟩ = some (.int .u32 0) := blk_cell (j := 2) hr rfl
  have z2 := blk_frozen 2 hr
  have hrd : w2.drew.heap[g]? = some (.cells #[vt, .map (some Bm), .int .u32 0, .int .i32 1, .int .u32 0, .map (some w.heap.size)] 92 (0, 0)) := hr
  have hr3 := blk_set 2 (.int .u32 1) hrd
  have e3 : (w2.drew.setCell ⟨g, 2, none⟩ (.int .u32 1)).cell? ⟨g, 3, none⟩ = some (.int .i32 1) := blk_cell (j := 3) hr3 rfl
  have z3 := blk_frozen 3 hr3
  have hr4 := blk_set 3 (.int .i32 0) hr3
  have hk4 : Kp (fun q => q = g) w2 ((w2.drew.setCell ⟨g, 2, none⟩ (.int .u32 1)).setCell ⟨g, 3, none⟩ (.int .i32 0)) := ((Kp.refl (fun q => q = g) w2).drew.setCell ⟨g, 2, none⟩ _ (fun _ => rfl)).setCell ⟨g, 3, none⟩ _ (fun _ => rfl)
  obtain ⟨n, k, hm, hle⟩ := hF.m
  have HF4 : Hid (Fld w ((w2.drew.setCell ⟨g, 2, none⟩ (.int .u32 1)).setCell ⟨g, 3, none⟩ (.int .i32 0)) g w.heap.size l vt Bm (.int .u32 1) (.int .i32 0) (.int .u32 0)) := ⟨hr4, ⟨n, k, hm.kp hk4 (fun e => by have e' : w.heap.size = g := e; have := HGL.out; omega), hle⟩, (HK1.out.trans hF.k (fun _ _ e => e)).trans hk4 (fun _ _ e => e), Nat.le_refl _⟩
  refine leaves_cons (f := 149) (args := #[.pointer (some ⟨g, 2, none⟩), .bool true]) (by simp) (by simp [go_sem]) ?_
  refine (storeLate ⟨g, 2, none⟩ (.int .u32 0) .returning _ e2 z2).mono ?_
  rintro e u' w'' ⟨rfl, rfl, rfl⟩
  refine leaves_cons (f := 148) (args := #[.pointer (some ⟨g, 3, none⟩)]) (by simp [settle]) (by simp [go_sem]) ?_
  refine (unlockLate ⟨g, 3, none⟩ _ _ e3 z3).mono ?_
  rintro e u' w'' ⟨rfl, rfl, rfl⟩
  simp [Leaves, settle, results, Tryz.results106]
  exact HF4.out
end
section
open Go.RowKit Go
set_option maxRecDepth 1000000 in
set_option maxHeartbeats 1600000 in
theorem onceFirst_any (w : World) (b g : Nat) (vt : Value) (Bm : Nat) (l : List Tp) (m : Value) (hb : w.heap[b]? = some (.cells #[.pointer (some ⟨g, 0, none⟩)] 48 (0, 0))) (hg : w.heap[g]? = some (.cells #[vt, .map (some Bm), .int .u32 0, .int .i32 0, .int .u32 0, m] 92 (0, 0))) (hTk : ∀ wy, Kp (fun q => q = g) w wy → TSl wy vt l) (hOk : ∀ wy, Kp (fun q => q = g) w wy → Otb wy) (h64 : l.length ≤ 64) : Calls Tryz.prog 42 #[.pointer (some ⟨g, 2, none⟩), .func (.func 43) #[] #[.pointer (some ⟨b, 0, none⟩)]] w fun x w' => x = .returned (.tuple #[]) ∧ Hid (Fld w w' g w.heap.size l vt Bm (.int .u32 1) (.int .i32 0) (.int .u32 0)) := by
  have HCA := hide (slow11_any w b g vt Bm l m hb hg hTk hOk h64)
  have d2 : w.cell? ⟨g, 2, none⟩ = some (.int .u32 0) := blk_cell (j := 2) hg rfl
  have hnot : ∀ (x : Bool) (w : World), (Op.unary .not (.bool x)).run Tryz.prog w = .ok (.bool (!x)) w := fun _ _ => rfl
  clear hb hg hTk hOk
  go_enter Tryz.func42, Tryz.ntmps42
  go_wp2_with (first
    | (go_at_call 105; refine (done_any ⟨g, 2, none⟩ 0 _ d2).mono ?_; rintro e w' ⟨rfl, rfl⟩)
    | (go_at_call 106; refine HCA.out.mono ?_; rintro e w2 ⟨rfl, hP⟩))
  go_end0
  exact ⟨rfl, hP⟩
set_option maxRecDepth 1000000 in
theorem onceDone_any (w : World) (g : Nat) (f : Value) (d : Int) (hd : d ≠ 0) (d2 : w.cell? ⟨g, 2, none⟩ = some (.int .u32 d)) : Calls Tryz.prog 42 #[.pointer (some ⟨g, 2, none⟩), f] w fun x w' => x = .returned (.tuple #[]) ∧ w' = w := by
  have hnot : ∀ (x : Bool) (w : World), (Op.unary .not (.bool x)).run Tryz.prog w = .ok (.bool (!x)) w := fun _ _ => rfl
  have hne : (d != 0) = true := by rw [bne_iff_ne]; exact hd
  go_enter Tryz.func42, Tryz.ntmps42
  go_wp2_with (first
    | (go_at_call 105; refine (done_any ⟨g, 2, none⟩ d _ d2).mono ?_; rintro e w' ⟨rfl, rfl⟩))
  go_end0
  exact ⟨rfl, rfl⟩
end
section
open Go.RowKit Go
set_option maxRecDepth 1000000 in
set_option maxHeartbeats 1600000 in
theorem tfilled_first (w : World) (g : Nat) (vt : Value) (Bm : Nat) (l : List Tp) (m : Value) (s : ByteArray) (hs : s.size ≤ 140737488351232) (hg : w.heap[g]? = some (.cells #[vt, .map (some Bm), .int .u32 0, .int .i32 0, .int .u32 0, m] 92 (0, 0))) (hTk : ∀ wy, Kp (fun q => q = g) w wy → TSl wy vt l) (hOk : ∀ wy, Kp (fun q => q = g) w wy → Otb wy) (h64 : l.length ≤ 64) : Calls Tryz.prog 17 #[.pointer (some ⟨g, 0, none⟩), .string s] w fun x w' => ∃ M k, x = .returned (.bool (memb (itr l (k + 1)) s)) ∧ Hid ((itr l (k + 1)).length ≤ (itr l k).length ∧ (∃ n, Mst w' M n (itr l (k + 1))) ∧ w'.heap[g]? = some (.cells #[vt, .map (some Bm), .int .u32 1, .int .i32 0, .int .u32 0, .map (some M)] 92 (0, 0)) ∧ Kp (fun q => q = g) w w' ∧ w.heap.size ≤ M) := by
  have hb0 := below_alloc4 w (.cells #[.pointer (some ⟨g, 0, none⟩)] 48)
  have hk0 : Kp (fun q => q = g) w (w.alloc (.cells #[.pointer (some ⟨g, 0, none⟩)] 48)) := Kp.mono (Kp.of_below (S := fun _ => False) hb0) (fun _ _ e => e.elim)
  have hbx := heap_alloc_new w (.cells #[.pointer (some ⟨g, 0, none⟩)] 48)
  have hg0 := (hb0.block _ (blk_lt hg)).trans hg
  have HCA := hide (onceFirst_any _ w.heap.size g vt Bm l m hbx hg0 (fun wy hk => hTk wy (hk0.trans hk (fun _ _ e => e))) (fun wy hk => hOk wy (hk0.trans hk (fun _ _ e => e))) h64)
  have q0 : (w.alloc (.cells #[.pointer (some ⟨g, 0, none⟩)] 48)).cell? ⟨w.heap.size, 0, none⟩ = some (.pointer (some ⟨g, 0, none⟩)) := blk_cell (j := 0) hbx rfl
  have HK0 := hide hk0
  have HBX := hide hbx
  have HS := hide hs
  have HSL : Hid (w.heap.size ≤ (w.alloc (.cells #[.pointer (some ⟨g, 0, none⟩)] 48)).heap.size) := hb0.size
  have HNG : Hid (w.heap.size ≠ g) := fun e => by have := blk_lt hg; omega
  clear hb0 hk0 hbx hg0 hg hTk hOk hs
  go_enter Tryz.func17, Tryz.ntmps17
  go_wp2_with fail
  refine HCA.out.mono ?_
  rintro e w2 ⟨rfl, hP⟩
  obtain ⟨n, k, hm, hle⟩ := hP.out.m
  have HM := hide hm
  have HLE := hide hle
  have HR := hide hP.out.r
  have HK2 : Hid (Kp (fun q => q = g) w w2) := HK0.out.trans hP.out.k (fun _ _ e => e)
  have HN2 := hide hP.out.n
  have t0 : w2.cell? ⟨w.heap.size, 0, none⟩ = some (.pointer (some ⟨g, 0, none⟩)) := blk_cell (j := 0) ((hP.out.k.block _ (blk_lt HBX.out) HNG.out).trans HBX.out) rfl
  have t5 : w2.cell? ⟨g, 5, none⟩ = some (.map (some (w.alloc (.cells #[.pointer (some ⟨g, 0, none⟩)] 48)).heap.size)) := blk_cell (j := 5) HR.out rfl
  generalize (w.alloc (.cells #[.pointer (some ⟨g, 0, none⟩)] 48)).heap.size = M at *
  clear hm hle hP HCA q0
  go_wp2_with (refine wpList_lookS rfl rfl rfl rfl HM.out HS.out ?_)
  go_ret
  have hb3 := below_alloc4 w2 (.cells #[] 78)
  exact ⟨M, k, rfl, HLE.out, ⟨n, HM.out.next hb3⟩, (hb3.block _ (blk_lt HR.out)).trans HR.out, HK2.out.trans (Kp.of_below (S := fun _ => False) hb3) (fun _ _ e => e.elim), HSL.out⟩
set_option maxRecDepth 1000000 in
set_option maxHeartbeats 1600000 in
theorem tfilled_again (w : World) (g : Nat) (vt : Value) (Bm M n : Nat) (L : List ByteArray) (s : ByteArray) (hs : s.size ≤ 140737488351232) (hg : w.heap[g]? = some (.cells #[vt, .map (some Bm), .int .u32 1, .int .i32 0, .int .u32 0, .map (some M)] 92 (0, 0))) (hm : Mst w M n L) : Calls Tryz.prog 17 #[.pointer (some ⟨g, 0, none⟩), .string s] w fun x w' => x = .returned (.bool (memb L s)) ∧ Below w.heap.size w w' := by
  have hb0 := below_alloc4 w (.cells #[.pointer (some ⟨g, 0, none⟩)] 48)
  have hbx := heap_alloc_new w (.cells #[.pointer (some ⟨g, 0, none⟩)] 48)
  have hg0 := (hb0.block _ (blk_lt hg)).trans hg
  have HCA := hide (fun f => onceDone_any (w.alloc (.cells #[.pointer (some ⟨g, 0, none⟩)] 48)) g f 1 (by decide) (blk_cell (j := 2) hg0 rfl))
  have q0 : (w.alloc (.cells #[.pointer (some ⟨g, 0, none⟩)] 48)).cell? ⟨w.heap.size, 0, none⟩ = some (.pointer (some ⟨g, 0, none⟩)) := blk_cell (j := 0) hbx rfl
  have t5 : (w.alloc (.cells #[.pointer (some ⟨g, 0, none⟩)] 48)).cell? ⟨g, 5, none⟩ = some (.map (some M)) := blk_cell (j := 5) hg0 rfl
  have HM := hide (hm.next hb0)
  have HS := hide hs
  have HB0 := hide hb0
  clear hb0 hbx hg0 hg hs hm
  go_enter Tryz.func17, Tryz.ntmps17
  go_wp2_with fail
  generalize w.alloc (.cells #[.pointer (some ⟨g, 0, none⟩)] 48) = w1 at *
  refine (HCA.out _).mono ?_
  rintro e w2 ⟨rfl, rfl⟩
  clear HCA
  go_wp2_with (refine wpList_lookS rfl rfl rfl rfl HM.out HS.out ?_)
  go_ret
  exact ⟨rfl, HB0.out.trans ((below_alloc4 _ _).mono HB0.out.size)⟩
end
section
open Go.RowKit Go

end
section
open Go.RowKit Go
def pnm : ByteArray := ⟨#[112, 97, 105, 114]⟩
def lnm : ByteArray := ⟨#[108, 111, 111, 112]⟩
def nnm : ByteArray := ⟨#[110, 111, 110, 101]⟩
def pfs : List Fd := [⟨⟨#[108, 101, 102, 116]⟩, ⟨#[108]⟩, ⟨⟨#[105, 110, 116]⟩, false⟩, false⟩, ⟨⟨#[114, 105, 103, 104, 116]⟩, ⟨#[114]⟩, ⟨⟨#[112, 97, 105, 114]⟩, true⟩, false⟩]
def prT (nm : ByteArray) : List Tp := [⟨pnm, 5, 0, 0, zrf, pfs, [], []⟩, ⟨lnm, 3, 1, 2, ⟨nm, false⟩, [], [], []⟩]
theorem pr_chk : chk11 (prT lnm) = (0, 0) := by decide +kernel
theorem pr_bad : chk11 (prT nnm) = (114, 1) := by decide +kernel
theorem pr_fnd : fnd (prT lnm) pnm = (⟨pnm, 5, 0, 0, zrf, pfs, [], []⟩, true) := by
  have h : plc (prT lnm) pnm = some 0 := by decide +kernel
  unfold fnd
  rw [h]
  rfl
theorem pr_shrt (nm : ByteArray) : Shrt (prT nm) := by
  intro t ht
  unfold prT at ht
  rcases List.mem_cons.1 ht with rfl | ht
  · simp [pfs]
  · rw [List.mem_singleton.1 ht]
    simp
theorem pas1_memL {L : List ByteArray} {t : Tp} {x : ByteArray} (h : x ∈ L) : x ∈ pas1 L t := by
  unfold pas1
  split
  · exact putL_mem.2 (.inr h)
  · exact h
theorem pas_memL : ∀ (ts : List Tp) (L : List ByteArray) (x : ByteArray), x ∈ L → x ∈ pas L ts
  | [], _, _, h => h
  | t :: r, L, x, h => pas_memL r (pas1 L t) x (pas1_memL h)
theorem itr_onm (l : List Tp) : ∀ (k : Nat) (x : ByteArray), x ∈ onm → x ∈ itr l k
  | 0, _, h => h
  | k + 1, x, h => pas_memL l (itr l k) x (itr_onm l k x h)
theorem pr_pair {k : Nat} (h : (itr (prT lnm) (k + 1)).length ≤ (itr (prT lnm) k).length) : memb (itr (prT lnm) (k + 1)) pnm = true := by
  refine memb_iff.2 ((itr_closed _ _ h).2 ⟨pnm, 5, 0, 0, zrf, pfs, [], []⟩ (List.mem_cons_self ..) ?_)
  exact rulb_mono (L := onm) (fun x hx => itr_onm _ _ x hx) (by decide +kernel)
theorem pr_loop (k : Nat) : memb (itr (prT lnm) k) lnm = false := by
  cases hm : memb (itr (prT lnm) k) lnm with
  | false => rfl
  | true =>
    have h := itr_least (prT lnm) (M := pnm :: onm) (fun x hx => List.mem_cons_of_mem _ hx) (fun t ht hr => ?_) k lnm (memb_iff.1 hm)
    · exact absurd (memb_iff.2 h) (by decide +kernel)
    · unfold prT at ht
      rcases List.mem_cons.1 ht with rfl | ht
      · exact List.mem_cons_self ..
      · rw [List.mem_singleton.1 ht] at hr
        exact absurd hr (by decide +kernel)
def pfc : Array Value := #[.string ⟨#[108, 101, 102, 116]⟩, .string ⟨#[108]⟩, .string ⟨#[105, 110, 116]⟩, .bool false, .bool false, .string ⟨#[114, 105, 103, 104, 116]⟩, .string ⟨#[114]⟩, .string ⟨#[112, 97, 105, 114]⟩, .bool true, .bool false]
def ptc (f : Nat) (nm : ByteArray) : Array Value := #[.string ⟨#[112, 97, 105, 114]⟩, .int .i64 5, .int .i64 0, .int .i64 0, .string ⟨#[]⟩, .bool false, .slice (some ⟨f, 0, none⟩) 2 2, .slice none 0 0, .slice none 0 0, .string ⟨#[108, 111, 111, 112]⟩, .int .i64 3, .int .i64 1, .int .i64 2, .string nm, .bool false, .slice none 0 0, .slice none 0 0, .slice none 0 0]
theorem ssl_nil (w : World) : SSl w (.slice none 0 0) [] := ⟨⟨none, 0, rfl, ⟨Nat.le_refl _, fun _ => rfl⟩, .inl rfl⟩, Nat.zero_le _, fun _ h => by cases h⟩
structure Prw (w : World) (f g : Nat) (nm : ByteArray) : Prop where
  hf : w.heap[f]? = some (.cells pfc 104 (0, 0))
  hg : w.heap[g]? = some (.cells (ptc f nm) 69 (0, 0))
  n : f ≠ g
theorem Prw.next {w w' : World} {f g : Nat} {nm : ByteArray} (h : Prw w f g nm) (hb : Below w.heap.size w w') : Prw w' f g nm := ⟨(hb.block _ (blk_lt h.hf)).trans h.hf, (hb.block _ (blk_lt h.hg)).trans h.hg, h.n⟩
theorem Prw.set {w : World} {f g : Nat} {nm nm' : ByteArray} (h : Prw w f g nm) : Prw (w.setCell ⟨g, 13, none⟩ (.string nm')) f g nm' := ⟨blk_other 13 _ h.hf h.n, blk_set 13 _ h.hg, h.n⟩
theorem Prw.tsl {w : World} {f g : Nat} {nm : ByteArray} (h : Prw w f g nm) (hn : nm.size ≤ 140737488351232) : TSl w (.slice (some ⟨g, 0, none⟩) 2 2) (prT nm) := by
  have hF : FSl w (.slice (some ⟨f, 0, none⟩) 2 2) pfs := by
    refine ⟨⟨some ⟨f, 0, none⟩, 2, rfl, ⟨Nat.le_refl _, fun e => by cases e⟩, .inr ⟨f, 0, rfl, fun i x hi => ?_⟩⟩, by decide⟩
    rcases i with _ | _ | i
    · have e : x = ⟨⟨#[108, 101, 102, 116]⟩, ⟨#[108]⟩, ⟨⟨#[105, 110, 116]⟩, false⟩, false⟩ := (Option.some.inj hi).symm
      subst e
      refine ⟨_, ⟨rfl, by decide, by decide, by decide⟩, fun j u hj => ?_⟩
      rcases j with _ | _ | _ | _ | _ | j
      all_goals first
        | exact blk_cell h.hf hj
        | (exact absurd hj (by simp [fdc]))
    · have e : x = ⟨⟨#[114, 105, 103, 104, 116]⟩, ⟨#[114]⟩, ⟨⟨#[112, 97, 105, 114]⟩, true⟩, false⟩ := (Option.some.inj hi).symm
      subst e
      refine ⟨_, ⟨rfl, by decide, by decide, by decide⟩, fun j u hj => ?_⟩
      rcases j with _ | _ | _ | _ | _ | j
      all_goals first
        | exact blk_cell h.hf hj
        | (exact absurd hj (by simp [fdc]))
    · simp [pfs] at hi
  refine ⟨⟨some ⟨g, 0, none⟩, 2, rfl, ⟨Nat.le_refl _, fun e => by cases e⟩, .inr ⟨g, 0, rfl, fun i x hi => ?_⟩⟩, by simp [prT]⟩
  rcases i with _ | _ | i
  · have e : x = ⟨pnm, 5, 0, 0, zrf, pfs, [], []⟩ := (Option.some.inj hi).symm
    subst e
    refine ⟨_, ⟨⟨_, _, _, rfl, hF, GSl.nil, ssl_nil w⟩, ⟨by decide, by decide, by decide, by decide, by decide⟩⟩, fun j u hj => ?_⟩
    rcases j with _ | _ | _ | _ | _ | _ | _ | _ | _ | j
    all_goals first
      | exact blk_cell h.hg hj
      | (exact absurd hj (by simp [tpc]))
  · have e : x = ⟨lnm, 3, 1, 2, ⟨nm, false⟩, [], [], []⟩ := (Option.some.inj hi).symm
    subst e
    refine ⟨_, ⟨⟨_, _, _, rfl, GSl.nil, GSl.nil, ssl_nil w⟩, ⟨(by decide : lnm.size ≤ 140737488351232), hn, (by decide : -9223372036854775808 ≤ (3 : Int) ∧ (3 : Int) ≤ 9223372036854775807), (by decide : -9223372036854775808 ≤ (1 : Int) ∧ (1 : Int) ≤ 9223372036854775807), (by decide : -9223372036854775808 ≤ (2 : Int) ∧ (2 : Int) ≤ 9223372036854775807)⟩⟩, fun j u hj => ?_⟩
    rcases j with _ | _ | _ | _ | _ | _ | _ | _ | _ | j
    all_goals first
      | exact blk_cell h.hg hj
      | (exact absurd hj (by simp [tpc]))
  · simp [prT] at hi
theorem alloc4_at (w : World) (o1 o2 o3 o4 : Obj) : ((((w.alloc o1).alloc o2).alloc o3).alloc o4).heap[w.heap.size + 1 + 1]? = some o3 ∧ ((((w.alloc o1).alloc o2).alloc o3).alloc o4).heap[w.heap.size + 1 + 1 + 1]? = some o4 ∧ Below w.heap.size w ((((w.alloc o1).alloc o2).alloc o3).alloc o4) := by
  have e1 : (w.alloc o1).heap.size = w.heap.size + 1 := by simp
  have e2 : ((w.alloc o1).alloc o2).heap.size = w.heap.size + 1 + 1 := by rw [← e1]; simp
  have e3 : (((w.alloc o1).alloc o2).alloc o3).heap.size = w.heap.size + 1 + 1 + 1 := by rw [← e2]; simp
  have h3 := heap_alloc_new ((w.alloc o1).alloc o2) o3
  have h4 := heap_alloc_new (((w.alloc o1).alloc o2).alloc o3) o4
  rw [e2] at h3
  rw [e3] at h4
  exact ⟨blk_alloc _ h3, h4, (((below_alloc4 w o1).alloc (by omega) _).alloc (by omega) _).alloc (by omega) _⟩
set_option maxRecDepth 1000000 in
set_option maxHeartbeats 1000000 in
theorem pair_any (w : World) : Calls Tryz.prog 14 #[] w fun e w' => ∃ f g, e = .returned (.slice (some ⟨g, 0, none⟩) 2 2) ∧ Hid (Prw w' f g lnm ∧ w.heap.size ≤ f ∧ w.heap.size ≤ g ∧ Below w.heap.size w w') := by
  go_enter Tryz.func14, Tryz.ntmps14
  go_wp2_with fail
  go_ret
  obtain ⟨h1, h2, h3⟩ := alloc4_at w (.cells #[.string ⟨#[108, 101, 102, 116]⟩, .string ⟨#[108]⟩, .string ⟨#[105, 110, 116]⟩, .bool false, .bool false] 104) (.cells #[.string ⟨#[114, 105, 103, 104, 116]⟩, .string ⟨#[114]⟩, .string ⟨#[112, 97, 105, 114]⟩, .bool true, .bool false] 104) (.cells pfc 104) (.cells (ptc (w.heap.size + 1 + 1) lnm) 69)
  exact ⟨w.heap.size + 1 + 1, w.heap.size + 1 + 1 + 1, rfl, ⟨h1, h2, by omega⟩, by omega, by omega, h3⟩
end
section
open Go.RowKit Go
set_option maxRecDepth 1000000 in
theorem num11_any (n : Int) (w : World) : Calls Tryz.prog 10 #[.int .i64 n] w fun e w' => e = .returned (.int .i64 n) ∧ w' = w := by
  go_enter Tryz.func10, Tryz.ntmps10
  go_wp2_with fail
  go_ret
  exact ⟨rfl, rfl⟩
theorem otb_kp {w wx wy : World} {g : Nat} (h : Otb w) (hb : Below w.heap.size w wx) (hg : w.heap.size ≤ g) (hk : Kp (fun q => q = g) wx wy) : Otb wy := ⟨fun j u hj => by
  have h1 := h.c j u hj
  have hlt := World.block_lt_of_cell? w _ h1
  refine hk.cell (keep_below hb _ _ h1) (fun e => ?_)
  have e' : 0 = g := e
  have hlt' : 0 < w.heap.size := hlt
  omega⟩
set_option maxRecDepth 1000000 in
set_option maxHeartbeats 4000000 in
theorem begun11_any (w : World) (hT : Tabs w) (hO : Otb w) : Calls Tryz.prog 4 #[] w fun e w' => e = .returned (.bool true) ∧ Below w.heap.size w w' := by
  have HT : Hid (∀ wy, Below w.heap.size w wy → Tabs wy) := fun wy hb => hT.next hb
  have HO : Hid (∀ wy, Below w.heap.size w wy → Otb wy) := fun wy hb => hO.next (keep_below hb)
  have HOT := hide hO
  have HNU := hide (fun n W => num11_any n W)
  clear hT hO
  go_enter Tryz.func4, Tryz.ntmps4
  go_wp2_with fail
  refine (pair_any w).mono ?_
  rintro e w1 ⟨f, g, rfl, hP⟩
  have HP1 := hide hP.out.1
  have HN := hide (And.intro hP.out.2.1 hP.out.2.2.1)
  have HB1 := hide hP.out.2.2.2
  have HC1 : Hid (Calls Tryz.prog 15 #[.slice (some ⟨g, 0, none⟩) 2 2] w1 fun e w' => e = .returned (.tuple #[.int .i64 0, .int .i64 0]) ∧ Below w1.heap.size w1 w') := by
    have h := check11_any w1 (HT.out w1 HB1.out) (HO.out w1 HB1.out) _ _ (HP1.out.tsl (by decide)) (pr_shrt _)
    rw [pr_chk] at h
    exact h
  clear hP
  go_wp2_with fail
  refine HC1.out.mono ?_
  rintro e w2 ⟨rfl, hb2⟩
  have HB2 : Hid (Below w.heap.size w w2) := HB1.out.trans (hb2.mono HB1.out.size)
  have HP2 := hide (HP1.out.next hb2)
  clear HC1 HP1 HB1 hb2
  have HC2 : Hid (Calls Tryz.prog 7 #[.slice (some ⟨g, 0, none⟩) 2 2] w2 fun e w' => ∃ t, e = .returned (.tuple #[.pointer (some ⟨t, 0, none⟩), .int .i64 0]) ∧ Hid (w2.heap.size ≤ t ∧ Tbm w' w2.heap.size t (prT lnm) 0 (.map none) ∧ Below w2.heap.size w2 w')) := by
    have h := open_any w2 (HT.out w2 HB2.out) (HO.out w2 HB2.out) _ _ (HP2.out.tsl (by decide)) (pr_shrt _)
    rw [pr_chk] at h
    refine h.mono ?_
    rintro e w' ⟨⟨vp, rfl, _, h2⟩, h3⟩
    obtain ⟨t, rfl, h4, h5⟩ := h2 rfl
    exact ⟨t, rfl, h4, h5, h3⟩
  go_wp2_with fail
  refine HC2.out.mono ?_
  rintro e w3 ⟨t, rfl, hP⟩
  have HTG := hide hP.out.1
  have HTB := hide hP.out.2.1
  have hb3 := hP.out.2.2
  have HB3 : Hid (Below w.heap.size w w3) := HB2.out.trans (hb3.mono HB2.out.size)
  have HP3 := hide (HP2.out.next hb3)
  have HGL : Hid (g < w2.heap.size) := blk_lt HP2.out.hg
  clear HC2 HP2 hP hb3
  go_wp2_with (first
    | (go_at_call 10
       refine (HNU.out _ _).mono ?_
       rintro e wq ⟨rfl, rfl⟩))
  have HC3 : Hid (Calls Tryz.prog 16 #[.pointer (some ⟨t, 0, none⟩), .string ⟨#[112, 97, 105, 114]⟩] wq fun e w' => ∃ c, e = .returned (.tuple #[.agg c, .bool true]) ∧ Hid (Tpi w' ⟨pnm, 5, 0, 0, zrf, pfs, [], []⟩ c ∧ Below wq.heap.size wq w')) := by
    have h := tfind_any wq (HO.out wq HB3.out) t (prT lnm) 0 (.map none) HTB.out.tbl (pr_shrt _) pnm (by decide)
    rw [pr_fnd] at h
    exact h
  refine HC3.out.mono ?_
  rintro e w4 ⟨c, rfl, hP⟩
  have hb4 := hP.out.2
  obtain ⟨⟨vf, vc, vw, hc, ⟨⟨af, cf, hvf, -, -⟩, -⟩, ⟨⟨ac, cc, hvc, -, -⟩, -⟩, ⟨⟨aw, cw, hvw, -, -⟩, -, -⟩⟩, -⟩ := hP.out.1
  subst hvf
  subst hvc
  subst hvw
  have hc' : c = #[.string ⟨#[112, 97, 105, 114]⟩, .int .i64 5, .int .i64 0, .int .i64 0, .string ⟨#[]⟩, .bool false, .slice af 2 cf, .slice ac 0 cc, .slice aw 0 cw] := hc
  clear hP hc HC3
  subst hc'
  have hb5 := below_alloc4 w4 (.cells #[.string ⟨#[112, 97, 105, 114]⟩, .int .i64 5, .int .i64 0, .int .i64 0, .string ⟨#[]⟩, .bool false, .slice af 2 cf, .slice ac 0 cc, .slice aw 0 cw] 69)
  have hx5 := heap_alloc_new w4 (.cells #[.string ⟨#[112, 97, 105, 114]⟩, .int .i64 5, .int .i64 0, .int .i64 0, .string ⟨#[]⟩, .bool false, .slice af 2 cf, .slice ac 0 cc, .slice aw 0 cw] 69)
  have hp5 := (HP3.out.next hb4).next hb5
  have g13 := blk_cell (j := 13) (v := .string lnm) hp5.hg rfl
  have z13 := blk_frozen 13 hp5.hg
  have hbx : Below w.heap.size w (w4.alloc (.cells #[.string ⟨#[112, 97, 105, 114]⟩, .int .i64 5, .int .i64 0, .int .i64 0, .string ⟨#[]⟩, .bool false, .slice af 2 cf, .slice ac 0 cc, .slice aw 0 cw] 69)) := (HB3.out.trans (hb4.mono HB3.out.size)).trans (hb5.mono (Nat.le_trans HB3.out.size hb4.size))
  have hkx : Kp (fun q => q = g) (w4.alloc (.cells #[.string ⟨#[112, 97, 105, 114]⟩, .int .i64 5, .int .i64 0, .int .i64 0, .string ⟨#[]⟩, .bool false, .slice af 2 cf, .slice ac 0 cc, .slice aw 0 cw] 69)) ((w4.alloc (.cells #[.string ⟨#[112, 97, 105, 114]⟩, .int .i64 5, .int .i64 0, .int .i64 0, .string ⟨#[]⟩, .bool false, .slice af 2 cf, .slice ac 0 cc, .slice aw 0 cw] 69)).setCell ⟨g, 13, none⟩ (.string ⟨#[110, 111, 110, 101]⟩)) := (Kp.refl (fun q => q = g) _).setCell _ _ (fun _ => rfl)
  have HP6 : Hid (Prw ((w4.alloc (.cells #[.string ⟨#[112, 97, 105, 114]⟩, .int .i64 5, .int .i64 0, .int .i64 0, .string ⟨#[]⟩, .bool false, .slice af 2 cf, .slice ac 0 cc, .slice aw 0 cw] 69)).setCell ⟨g, 13, none⟩ (.string ⟨#[110, 111, 110, 101]⟩)) f g nnm) := hp5.set
  have HB6 : Hid (Below w.heap.size w ((w4.alloc (.cells #[.string ⟨#[112, 97, 105, 114]⟩, .int .i64 5, .int .i64 0, .int .i64 0, .string ⟨#[]⟩, .bool false, .slice af 2 cf, .slice ac 0 cc, .slice aw 0 cw] 69)).setCell ⟨g, 13, none⟩ (.string ⟨#[110, 111, 110, 101]⟩))) := hbx.trans (hkx.below hbx.size (fun q e => by rw [e]; exact HN.out.2))
  have HTB6 : Hid (Tbm ((w4.alloc (.cells #[.string ⟨#[112, 97, 105, 114]⟩, .int .i64 5, .int .i64 0, .int .i64 0, .string ⟨#[]⟩, .bool false, .slice af 2 cf, .slice ac 0 cc, .slice aw 0 cw] 69)).setCell ⟨g, 13, none⟩ (.string ⟨#[110, 111, 110, 101]⟩)) w2.heap.size t (prT lnm) 0 (.map none)) := ((HTB.out.next hb4).next hb5).kp hkx (fun q e => by rw [e]; exact HGL.out) HTG.out
  have HX6 : Hid (((w4.alloc (.cells #[.string ⟨#[112, 97, 105, 114]⟩, .int .i64 5, .int .i64 0, .int .i64 0, .string ⟨#[]⟩, .bool false, .slice af 2 cf, .slice ac 0 cc, .slice aw 0 cw] 69)).setCell ⟨g, 13, none⟩ (.string ⟨#[110, 111, 110, 101]⟩)).heap[w4.heap.size]? = some (.cells #[.string ⟨#[112, 97, 105, 114]⟩, .int .i64 5, .int .i64 0, .int .i64 0, .string ⟨#[]⟩, .bool false, .slice af 2 cf, .slice ac 0 cc, .slice aw 0 cw] 69 (0, 0))) := blk_other 13 _ hx5 (fun e => by have h1 := blk_lt (HP3.out.next hb4).hg; omega)
  clear hb4 hb5 hx5 hp5 hbx hkx HTB HP3 HB3
  go_wp2_with fail
  clear g13 z13
  generalize (w4.alloc (.cells #[.string ⟨#[112, 97, 105, 114]⟩, .int .i64 5, .int .i64 0, .int .i64 0, .string ⟨#[]⟩, .bool false, .slice af 2 cf, .slice ac 0 cc, .slice aw 0 cw] 69)).setCell ⟨g, 13, none⟩ (.string ⟨#[110, 111, 110, 101]⟩) = w6 at *
  generalize w4.heap.size = x at *
  have HC4 : Hid (Calls Tryz.prog 15 #[.slice (some ⟨g, 0, none⟩) 2 2] w6 fun e w' => e = .returned (.tuple #[.int .i64 114, .int .i64 1]) ∧ Below w6.heap.size w6 w') := by
    have h := check11_any w6 (HT.out w6 HB6.out) (HO.out w6 HB6.out) _ _ (HP6.out.tsl (by decide)) (pr_shrt _)
    rw [pr_bad] at h
    exact h
  refine HC4.out.mono ?_
  rintro e w7 ⟨rfl, hb7⟩
  have HB7 : Hid (Below w.heap.size w w7) := HB6.out.trans (hb7.mono HB6.out.size)
  have x1 : w7.cell? ⟨x, 1, none⟩ = some (.int .i64 5) := blk_cell (j := 1) ((hb7.block _ (blk_lt HX6.out)).trans HX6.out) rfl
  obtain ⟨vt, B, hq1, hq2⟩ := (HTB6.out.next hb7).e
  have hwt : w.heap.size ≤ t := Nat.le_trans HB2.out.size HTG.out
  have HC5 : Hid (Calls Tryz.prog 17 #[.pointer (some ⟨t, 0, none⟩), .string ⟨#[112, 97, 105, 114]⟩] w7 fun e w' => e = .returned (.bool true) ∧ Hid (Below w.heap.size w w' ∧ Calls Tryz.prog 17 #[.pointer (some ⟨t, 0, none⟩), .string ⟨#[108, 111, 111, 112]⟩] w' fun e w'' => e = .returned (.bool false) ∧ Below w.heap.size w w'')) := by
    refine (tfilled_first w7 t vt B (prT lnm) (.map none) pnm (by decide) hq1 (fun wy hk => (hq2 wy (hk.mono (fun _ _ e => .inr e))).t) (fun wy hk => otb_kp HOT.out HB7.out hwt hk) (by decide)).mono ?_
    rintro e w8 ⟨M, k, rfl, hP⟩
    obtain ⟨h1, ⟨n, h2⟩, h3, h4, _⟩ := hP.out
    have hb8 : Below w.heap.size w w8 := HB7.out.trans (h4.below HB7.out.size (fun q e => by rw [e]; exact hwt))
    refine ⟨by rw [pr_pair h1], hb8, (tfilled_again w8 t vt B M n _ lnm (by decide) h3 h2).mono ?_⟩
    rintro e w9 ⟨rfl, hb9⟩
    exact ⟨by rw [pr_loop], hb8.trans (hb9.mono hb8.size)⟩
  clear HC4 HX6 HTB6 HP6 hb7 hq1 hq2 hwt HB6 HO HT HOT HN HTG HGL HB2 HB7
  go_wp2_with fail
  refine HC5.out.mono ?_
  rintro e w8 ⟨rfl, hP⟩
  clear HC5 x1
  go_wp2_with fail
  refine hP.out.2.mono ?_
  rintro e w9 ⟨rfl, hb9⟩
  have HB9 := hide hb9
  clear hb9 hP
  go_wp2_with (first
    | (go_at_call 10
       refine (HNU.out _ _).mono ?_
       rintro e wz ⟨rfl, rfl⟩))
  go_ret
  exact ⟨rfl, HB9.out⟩
end
section
open Go.RowKit Go

end
section
open Go.RowKit Go
theorem rulb_0 {L : List ByteArray} {t : Tp} (h1 : t.k ≠ 1) (h2 : ¬ (t.k = 3 ∨ t.k = 4)) (h3 : ¬ (t.k = 5 ∨ t.k = 6)) (h4 : ¬ (t.k = 7 ∨ t.k = 8)) : rulb L t = true := by
  unfold rulb
  rw [if_neg h1, if_neg h2, if_neg h3, if_neg h4]
theorem any_hit {α : Type} {f : α → Bool} {l : List α} {i : Nat} {x : α} (h : l[i]? = some x) (hf : f x = true) : l.any f = true := List.any_eq_true.2 ⟨x, List.mem_of_getElem? h, hf⟩
theorem any_no {α : Type} {f : α → Bool} {l : List α} {j : Nat} (h : ∀ i x, i < j → l[i]? = some x → f x = false) (hj : l.length ≤ j) : l.any f = false := by
  rw [List.any_eq_false]
  intro x hx he
  obtain ⟨i, hi, e⟩ := List.getElem_of_mem hx
  have := h i x (by omega) (by rw [List.getElem?_eq_getElem hi, e])
  rw [this] at he
  cases he
end
section
open Go.RowKit Go
def own9 : List ByteArray := owns.map (·.1)
def fll (F : List ByteArray) (l : List Tp) : List ByteArray := (l.filter fun t => memb F t.n).map (·.n)
def frd1 (all A : List ByteArray) (t : Tp) : List ByteArray := if (memb all t.n && (!memb A t.n && rulb A t)) = true then A ++ [t.n] else A
def frd (all A : List ByteArray) (l : List Tp) : List ByteArray := l.foldl (frd1 all) A
def frds (all : List ByteArray) (l : List Tp) : Nat → List ByteArray
  | 0 => own9
  | n + 1 => frd all (frds all l n) l
theorem own9_nodup : own9.Nodup := by decide +kernel
theorem onm_own9 : ∀ x, x ∈ onm ↔ x ∈ own9 := by
  have h1 : (onm.all fun x => memb own9 x) = true := by decide +kernel
  have h2 : (own9.all fun x => memb onm x) = true := by decide +kernel
  intro x
  exact ⟨fun h => memb_iff.1 (List.all_eq_true.1 h1 x h), fun h => memb_iff.1 (List.all_eq_true.1 h2 x h)⟩
theorem own9_ownK {x : ByteArray} (h : x ∈ own9) : (ownK x).isSome = true := by
  have h1 : (own9.all fun x => (ownK x).isSome) = true := by decide +kernel
  exact List.all_eq_true.1 h1 x h
structure Gdl (l : List Tp) : Prop where
  own : ∀ t ∈ l, t.n ∉ own9
  one : ∀ (i j : Nat) (t u : Tp), l[i]? = some t → l[j]? = some u → t.n = u.n → i = j
theorem plc_first : ∀ (l : List Tp) (i : Nat) (t : Tp), l[i]? = some t → ∃ j, plc l t.n = some j ∧ j ≤ i ∧ ∃ u, l[j]? = some u ∧ u.n = t.n
  | [], _, _, h => by cases h
  | u :: r, 0, t, h => by
    have e : u = t := by simpa using h
    subst e
    exact ⟨0, by unfold plc; rw [if_pos rfl], Nat.le_refl _, u, rfl, rfl⟩
  | u :: r, i + 1, t, h => by
    by_cases e : u.n = t.n
    · exact ⟨0, by unfold plc; rw [if_pos e], by omega, u, rfl, e⟩
    · obtain ⟨j, h1, h2, x, h3, h4⟩ := plc_first r i t (by simpa using h)
      exact ⟨j + 1, by unfold plc; rw [if_neg e, h1]; rfl, by omega, x, by simpa using h3, h4⟩
theorem lk1_all {f : Nat → Tp → Nat} : ∀ (l : List Tp) (o : Nat), lk1 f o l = none → ∀ i t, l[i]? = some t → f (o + i) t = 0
  | [], _, _, _, _, h => by cases h
  | u :: r, o, h, i, t, ht => by
    unfold lk1 at h
    by_cases h0 : f o u = 0
    · rw [if_neg (fun e => e h0)] at h
      rcases i with _ | i
      · have e : u = t := by simpa using ht
        subst e
        exact h0
      · have := lk1_all r (o + 1) h i t (by simpa using ht)
        rw [show o + (i + 1) = o + 1 + i by omega]
        exact this
    · rw [if_pos h0] at h
      cases h
theorem chk_gdl {l : List Tp} (h : (chk11 l).1 = 0) : Gdl l ∧ l.length ≤ 64 := by
  have hlen : ¬ 64 < l.length := fun e => by
    rw [chk_many e] at h
    cases h
  have haln : ∀ i t, l[i]? = some t → aln l i t = 0 := fun i t ht => by
    have h1 : lk1 (aln l) 0 l = none := by
      cases hk : lk1 (aln l) 0 l with
      | none => rfl
      | some r =>
        unfold chk11 at h
        rw [if_neg hlen, hk] at h
        have : ∀ (l' : List Tp) (o : Nat), lk1 (aln l) o l' = some r → r.1 ≠ 0 := fun l' => by
          induction l' with
          | nil => intro o h; cases h
          | cons u q ih =>
            intro o h
            unfold lk1 at h
            by_cases h0 : aln l o u = 0
            · rw [if_neg (fun e => e h0)] at h
              exact ih _ h
            · rw [if_pos h0] at h
              have e := Option.some.inj h
              rw [← e]
              exact h0
        exact absurd h (this l 0 hk)
    have := lk1_all l 0 h1 i t ht
    rw [Nat.zero_add] at this
    exact this
  have hname : ∀ i t, l[i]? = some t → (ownK t.n).isSome = false ∧ ¬ (plc l t.n).getD 0 < i := fun i t ht => by
    have h1 := haln i t ht
    unfold aln at h1
    by_cases h2 : (!nbl t.n || (ownK t.n).isSome || decide ((plc l t.n).getD 0 < i)) = true
    · rw [if_pos h2] at h1
      cases h1
    · rw [Bool.or_eq_true, Bool.or_eq_true, not_or, not_or] at h2
      exact ⟨by simpa using h2.1.2, by simpa using h2.2⟩
  refine ⟨⟨fun t ht hm => ?_, fun i j t u hi hj e => ?_⟩, by omega⟩
  · obtain ⟨i, hi, e⟩ := List.getElem_of_mem ht
    have h1 := (hname i t (by rw [List.getElem?_eq_getElem hi, e])).1
    rw [own9_ownK hm] at h1
    cases h1
  · obtain ⟨a, ha, hai, x, hx, hxn⟩ := plc_first l i t hi
    have h1 := (hname i t hi).2
    have h2 := (hname j u hj).2
    rw [ha] at h1
    rw [← e, ha] at h2
    obtain ⟨b, hb, hbj, _⟩ := plc_first l j u hj
    rw [← e, ha] at hb
    have := Option.some.inj hb
    simp only [Option.getD_some] at h1 h2
    omega
theorem pas_why : ∀ (ts : List Tp) (L : List ByteArray) (x : ByteArray), x ∈ pas L ts → x ∈ L ∨ ∃ t ∈ ts, t.n = x ∧ rulb (pas L ts) t = true
  | [], _, _, h => .inl h
  | t :: r, L, x, h => by
    have e : pas L (t :: r) = pas (pas1 L t) r := rfl
    rw [e] at h ⊢
    rcases pas_why r (pas1 L t) x h with h1 | ⟨u, hu, hn, hr⟩
    · unfold pas1 at h1
      split at h1
      · next hr =>
        rcases putL_mem.1 h1 with rfl | h1
        · exact .inr ⟨t, List.mem_cons_self, rfl, rulb_mono (L := L) (fun y hy => pas_memL r _ y (pas1_memL hy)) hr⟩
        · exact .inl h1
      · exact .inl h1
    · exact .inr ⟨u, List.mem_cons_of_mem _ hu, hn, hr⟩
theorem itr_why (l : List Tp) : ∀ (k : Nat) (x : ByteArray), x ∈ itr l k → x ∈ onm ∨ ∃ t ∈ l, t.n = x ∧ rulb (itr l k) t = true
  | 0, _, h => .inl h
  | k + 1, x, h => by
    rcases pas_why l (itr l k) x h with h1 | h1
    · rcases itr_why l k x h1 with h2 | ⟨t, ht, hn, hr⟩
      · exact .inl h2
      · exact .inr ⟨t, ht, hn, rulb_mono (fun y hy => pas_memL l _ y hy) hr⟩
    · exact .inr h1
structure Fls (l : List Tp) (F : List ByteArray) : Prop where
  own : ∀ x ∈ own9, x ∈ F
  why : ∀ x ∈ F, x ∈ own9 ∨ ∃ t ∈ l, t.n = x ∧ rulb F t = true
  cl : ∀ t ∈ l, rulb F t = true → t.n ∈ F
  least : ∀ M : List ByteArray, (∀ x ∈ own9, x ∈ M) → (∀ t ∈ l, rulb M t = true → t.n ∈ M) → ∀ x ∈ F, x ∈ M
theorem fls_itr {l : List Tp} {k : Nat} (h : (itr l (k + 1)).length ≤ (itr l k).length) : Fls l (itr l (k + 1)) :=
  ⟨fun x hx => itr_onm l (k + 1) x ((onm_own9 x).2 hx), fun x hx => (itr_why l (k + 1) x hx).imp (onm_own9 x).1 id, (itr_closed l k h).2, fun _ h0 hc x hx => itr_least l (fun y hy => h0 y ((onm_own9 y).1 hy)) hc (k + 1) x hx⟩
theorem gdl_eq {l : List Tp} (g : Gdl l) {t u : Tp} (ht : t ∈ l) (hu : u ∈ l) (e : t.n = u.n) : t = u := by
  obtain ⟨i, hi, ei⟩ := List.getElem_of_mem ht
  obtain ⟨j, hj, ej⟩ := List.getElem_of_mem hu
  have h := g.one i j t u (by rw [List.getElem?_eq_getElem hi, ei]) (by rw [List.getElem?_eq_getElem hj, ej]) e
  subst h
  rw [← ei, ← ej]
theorem fls_iff {l : List Tp} {F : List ByteArray} (g : Gdl l) (f : Fls l F) {t : Tp} (ht : t ∈ l) : rulb F t = true ↔ t.n ∈ F := by
  refine ⟨f.cl t ht, fun h => ?_⟩
  rcases f.why _ h with h1 | ⟨u, hu, hn, hr⟩
  · exact absurd h1 (g.own t ht)
  · rw [← gdl_eq g hu ht hn]
    exact hr
theorem fll_mem {l : List Tp} {F : List ByteArray} {x : ByteArray} : x ∈ fll F l ↔ x ∈ F ∧ ∃ t ∈ l, t.n = x := by
  unfold fll
  rw [List.mem_map]
  constructor
  · rintro ⟨t, ht, rfl⟩
    obtain ⟨h1, h2⟩ := List.mem_filter.1 ht
    exact ⟨memb_iff.1 h2, t, h1, rfl⟩
  · rintro ⟨h, t, ht, rfl⟩
    exact ⟨t, List.mem_filter.2 ⟨ht, memb_iff.2 h⟩, rfl⟩
theorem full_mem {l : List Tp} {F : List ByteArray} (f : Fls l F) {x : ByteArray} : x ∈ own9 ++ fll F l ↔ x ∈ F := by
  rw [List.mem_append, fll_mem]
  constructor
  · rintro (h | h)
    · exact f.own x h
    · exact h.1
  · intro h
    rcases f.why x h with h1 | ⟨t, ht, hn, _⟩
    · exact .inl h1
    · exact .inr ⟨h, t, ht, hn⟩
theorem full_rul {l : List Tp} {F : List ByteArray} (g : Gdl l) (f : Fls l F) {t : Tp} (ht : t ∈ l) : rulb (own9 ++ fll F l) t = memb (fll F l) t.n := by
  have h1 : rulb (own9 ++ fll F l) t = true ↔ rulb F t = true := ⟨rulb_mono (fun x hx => (full_mem f).1 hx), rulb_mono (fun x hx => (full_mem f).2 hx)⟩
  rw [Bool.eq_iff_iff, h1, fls_iff g f ht, memb_iff, fll_mem]
  exact ⟨fun h => ⟨h, t, ht, rfl⟩, fun h => h.1⟩
theorem frd1_len (all A : List ByteArray) (t : Tp) : A.length ≤ (frd1 all A t).length := by
  unfold frd1
  split
  · rw [List.length_append]; omega
  · exact Nat.le_refl _
theorem frd_len (all : List ByteArray) : ∀ (l : List Tp) (A : List ByteArray), A.length ≤ (frd all A l).length
  | [], _ => Nat.le_refl _
  | t :: r, A => Nat.le_trans (frd1_len all A t) (frd_len all r (frd1 all A t))
theorem frd1_same {all A : List ByteArray} {t : Tp} (h : (frd1 all A t).length ≤ A.length) : frd1 all A t = A ∧ (memb all t.n && (!memb A t.n && rulb A t)) = false := by
  unfold frd1 at *
  split at h
  · rw [List.length_append, List.length_singleton] at h
    omega
  · next hn => exact ⟨if_neg hn, by simpa using hn⟩
theorem frd_same (all : List ByteArray) : ∀ (l : List Tp) (A : List ByteArray), (frd all A l).length ≤ A.length → ∀ t ∈ l, (memb all t.n && (!memb A t.n && rulb A t)) = false
  | [], _, _, _, h => by cases h
  | t :: r, A, h, u, hu => by
    have e : frd all A (t :: r) = frd all (frd1 all A t) r := rfl
    rw [e] at h
    obtain ⟨e1, h1⟩ := frd1_same (Nat.le_trans (frd_len all r (frd1 all A t)) h)
    rw [e1] at h
    rcases List.mem_cons.1 hu with rfl | hu
    · exact h1
    · exact frd_same all r A h u hu
structure Rdi (F : List ByteArray) (l : List Tp) (A : List ByteArray) : Prop where
  nd : A.Nodup
  sub : ∀ x ∈ A, x ∈ own9 ++ fll F l
  own : ∀ x ∈ own9, x ∈ A
theorem Rdi.one {F : List ByteArray} {l : List Tp} {A : List ByteArray} (h : Rdi F l A) (t : Tp) : Rdi F l (frd1 (fll F l) A t) := by
  unfold frd1
  split
  · next hc =>
    rw [Bool.and_eq_true, Bool.and_eq_true] at hc
    have hn : t.n ∉ A := fun e => by
      have := hc.2.1
      rw [memb_iff.2 e] at this
      cases this
    refine ⟨List.nodup_append.2 ⟨h.nd, by simp, fun a ha b hb e => ?_⟩, fun x hx => ?_, fun x hx => List.mem_append_left _ (h.own x hx)⟩
    · rw [List.mem_singleton.1 hb] at e
      exact hn (e ▸ ha)
    · rcases List.mem_append.1 hx with hx | hx
      · exact h.sub x hx
      · rw [List.mem_singleton.1 hx]
        exact List.mem_append_right _ (memb_iff.1 hc.1)
  · exact h
theorem Rdi.round {F : List ByteArray} {l : List Tp} : ∀ (ts : List Tp) {A : List ByteArray}, Rdi F l A → Rdi F l (frd (fll F l) A ts)
  | [], _, h => h
  | t :: r, _, h => Rdi.round r (h.one t)
theorem Rdi.all {F : List ByteArray} {l : List Tp} : ∀ n, Rdi F l (frds (fll F l) l n)
  | 0 => ⟨own9_nodup, fun _ h => List.mem_append_left _ h, fun _ h => h⟩
  | n + 1 => Rdi.round l (Rdi.all n)
theorem full_nodup {l : List Tp} {F : List ByteArray} (g : Gdl l) : (own9 ++ fll F l).Nodup := by
  refine List.nodup_append.2 ⟨own9_nodup, ?_, fun a ha b hb e => ?_⟩
  · unfold fll
    have hp : (l.filter fun t => memb F t.n).Pairwise (fun t u => t.n ≠ u.n) := by
      refine List.Pairwise.filter _ ?_
      rw [List.pairwise_iff_getElem]
      intro i j hi hj hij e
      have := g.one i j _ _ (List.getElem?_eq_getElem hi) (List.getElem?_eq_getElem hj) e
      omega
    exact List.pairwise_map.2 hp
  · subst e
    obtain ⟨_, t, ht, hn⟩ := fll_mem.1 hb
    exact g.own t ht (hn ▸ ha)
theorem frds_len {l : List Tp} {F : List ByteArray} (g : Gdl l) (f : Fls l F) : ∀ n, min (9 + n) (9 + (fll F l).length) ≤ (frds (fll F l) l n).length
  | 0 => by
    show min (9 + 0) (9 + (fll F l).length) ≤ own9.length
    have : own9.length = 9 := rfl
    omega
  | n + 1 => by
    have ih := frds_len g f n
    have hi : Rdi F l (frds (fll F l) l n) := Rdi.all n
    have hl := frd_len (fll F l) l (frds (fll F l) l n)
    have e : frds (fll F l) l (n + 1) = frd (fll F l) (frds (fll F l) l n) l := rfl
    rw [e]
    by_cases hs : (frd (fll F l) (frds (fll F l) l n) l).length ≤ (frds (fll F l) l n).length
    · have hno := frd_same (fll F l) l (frds (fll F l) l n) hs
      have hF : ∀ x ∈ F, x ∈ frds (fll F l) l n := f.least _ hi.own (fun t ht hr => by
        have h1 := hno t ht
        have h2 : rulb (own9 ++ fll F l) t = true := rulb_mono hi.sub hr
        rw [full_rul g f ht] at h2
        rw [h2, hr] at h1
        cases hm : memb (frds (fll F l) l n) t.n with
        | true => exact memb_iff.1 hm
        | false => rw [hm] at h1; cases h1)
      have := nodup_lenG (own9 ++ fll F l) (frds (fll F l) l n) (full_nodup g) (fun x hx => hF x ((full_mem f).1 hx))
      rw [List.length_append] at this
      have h9 : own9.length = 9 := rfl
      omega
    · omega
theorem frds_end {l : List Tp} {F : List ByteArray} (g : Gdl l) (f : Fls l F) : (frds (fll F l) l l.length).length = 9 + (fll F l).length := by
  have h1 := frds_len g f l.length
  have h2 : (fll F l).length ≤ l.length := by
    unfold fll
    rw [List.length_map]
    exact List.length_filter_le _ _
  have h3 := nodup_lenG _ (own9 ++ fll F l) (Rdi.all (F := F) (l := l) l.length).nd (Rdi.all l.length).sub
  rw [List.length_append] at h3
  have h9 : own9.length = 9 := rfl
  omega
end
section
open Go.RowKit Go
structure Okl (l : List Tp) : Prop where
  m : ¬ 64 < l.length
  a : ∀ (i : Nat) (t : Tp), l[i]? = some t → aln l i t = 0
  r : ∀ (i : Nat) (t : Tp), l[i]? = some t → rng l t = 0
  t : ∀ (i : Nat) (t : Tp), l[i]? = some t → tgt l t = 0
theorem lk1_ne {f : Nat → Tp → Nat} : ∀ (l : List Tp) (o : Nat) (r : Nat × Nat), lk1 f o l = some r → r.1 ≠ 0
  | [], _, _, h => by cases h
  | t :: l, o, r, h => by
    unfold lk1 at h
    split at h
    · rename_i h0
      rw [← Option.some.inj h]
      exact h0
    · exact lk1_ne l (o + 1) r h
theorem okl_of {l : List Tp} (h : (chk11 l).1 = 0) : Okl l := by
  unfold chk11 at h
  split at h
  · exact absurd h (by decide)
  · rename_i h64
    cases h1 : lk1 (aln l) 0 l with
    | some r => rw [h1] at h; exact absurd h (lk1_ne _ _ _ h1)
    | none =>
      rw [h1] at h
      simp only at h
      cases h2 : lk1 (fun _ t => rng l t) 0 l with
      | some r => rw [h2] at h; exact absurd h (lk1_ne _ _ _ h2)
      | none =>
        rw [h2] at h
        simp only at h
        cases h3 : lk1 (fun _ t => tgt l t) 0 l with
        | some r => rw [h3] at h; exact absurd h (lk1_ne _ _ _ h3)
        | none =>
          refine ⟨h64, fun i t ht => ?_, fun i t ht => ?_, fun i t ht => ?_⟩
          · have := lk1_all l 0 h1 i t ht; rw [Nat.zero_add] at this; exact this
          · exact lk1_all l 0 h2 i t ht
          · exact lk1_all l 0 h3 i t ht
theorem okl_chk {l : List Tp} (h : Okl l) : chk11 l = (0, 0) := chk_ok h.m (fun k' j u hk hu => by
  rcases (show k' = 0 ∨ k' = 1 ∨ k' = 2 by omega) with rfl | rfl | rfl
  · exact h.a j u hu
  · exact h.r j u hu
  · exact h.t j u hu)
theorem Okl.fst {l : List Tp} (h : Okl l) : Fst l := aln_fst h.a
theorem Okl.gdl {l : List Tp} (h : Okl l) : Gdl l := (chk_gdl (by rw [okl_chk h])).1
theorem Okl.own {l : List Tp} (o : Okl l) {t : Tp} (ht : t ∈ l) : ∃ i, plc l t.n = some i ∧ l[i]? = some t := by
  obtain ⟨i, hi, e⟩ := List.getElem_of_mem ht
  obtain ⟨j, hj, _, u, hu, hn⟩ := plc_first l i t (by rw [List.getElem?_eq_getElem hi, e])
  exact ⟨j, hj, by rw [← gdl_eq o.gdl (List.mem_of_getElem? hu) ht hn]; exact hu⟩
end
section
open Go.RowKit Go
structure Tst (w : World) (N top g : Nat) (l : List Tp) : Prop where
  e : ∃ (wt : World) (vt : Value) (B : Nat) (d : Int) (m : Value), wt.heap.size = top ∧ (∀ wy, Kp (fun q => q < N ∨ q = g) wt wy → Sbok wy vt B l) ∧ Kp (fun q => q < N ∨ q = g) wt w ∧ w.heap[g]? = some (.cells #[vt, .map (some B), .int .u32 d, .int .i32 0, .int .u32 0, m] 92 (0, 0)) ∧ ((d = 0 ∧ m = .map none) ∨ (d = 1 ∧ ∃ M n F, m = .map (some M) ∧ Fls l F ∧ Mst w M n F))
  g : N ≤ g ∧ g < top
theorem Tst.of {w : World} {N g : Nat} {l : List Tp} (h : Tbm w N g l 0 (.map none)) (hN : N ≤ g) : Tst w N w.heap.size g l := by
  obtain ⟨vt, B, h1, h2⟩ := h.e
  exact ⟨⟨w, vt, B, 0, .map none, rfl, h2, Kp.refl _ _, h1, .inl ⟨rfl, rfl⟩⟩, hN, blk_lt h1⟩
theorem mst_ne {w : World} {M n g : Nat} {F : List ByteArray} {c : Array Value} {T : TypeId} (h : Mst w M n F) (hc : w.heap[g]? = some (.cells c T (0, 0))) : M ≠ g := fun e => by
  obtain ⟨_, D, ⟨es, clock, hm, _⟩, _⟩ := h
  rw [e, hc] at hm
  cases hm
theorem Tst.top_le {w : World} {N top g : Nat} {l : List Tp} (h : Tst w N top g l) : top ≤ w.heap.size := by
  obtain ⟨wt, vt, B, d, m, h1, _, h3, _⟩ := h.e
  rw [← h1]
  exact h3.size
theorem Tst.next {w w' : World} {N top g : Nat} {l : List Tp} (h : Tst w N top g l) (hb : Below w.heap.size w w') : Tst w' N top g l := by
  obtain ⟨wt, vt, B, d, m, h1, h2, h3, h4, h5⟩ := h.e
  refine ⟨⟨wt, vt, B, d, m, h1, h2, h3.trans (Kp.of_below (S := fun _ => False) hb) (fun _ _ e => e.elim), (hb.block _ (blk_lt h4)).trans h4, ?_⟩, h.g⟩
  rcases h5 with h5 | ⟨h5, M, n, F, e1, e2, e3⟩
  · exact .inl h5
  · exact .inr ⟨h5, M, n, F, e1, e2, e3.next hb⟩
theorem Tst.cells {w : World} {N top g : Nat} {l : List Tp} (h : Tst w N top g l) : ∃ c, w.heap[g]? = some (.cells c 92 (0, 0)) := by
  obtain ⟨wt, vt, B, d, m, _, _, _, h4, _⟩ := h.e
  exact ⟨_, h4⟩
theorem Tst.tbl {w : World} {N top g : Nat} {l : List Tp} (h : Tst w N top g l) : ∃ d m, Tbl w g l d m := by
  obtain ⟨wt, vt, B, d, m, h1, h2, h3, h4, h5⟩ := h.e
  exact ⟨d, m, ⟨vt, B, h4, h2 w h3, fun wy hk => (h2 wy (h3.trans hk (fun _ _ e => .inr e))).t⟩⟩
theorem tst_filled {w0 w : World} {N top g : Nat} {l : List Tp} (h : Tst w N top g l) (hO : Otb w0) (hb : Below w0.heap.size w0 w) (h0 : w0.heap.size ≤ N) (h64 : l.length ≤ 64) (s : ByteArray) (hs : s.size ≤ 140737488351232) : Calls Tryz.prog 17 #[.pointer (some ⟨g, 0, none⟩), .string s] w fun e w' => ∃ F, e = .returned (.bool (memb F s)) ∧ Hid (Fls l F ∧ Tst w' N top g l ∧ Kp (fun q => q = g) w w') := by
  have hg := h.g
  obtain ⟨wt, vt, B, d, m, h1, h2, h3, h4, h5⟩ := h.e
  rcases h5 with ⟨rfl, rfl⟩ | ⟨rfl, M, n, F, rfl, e2, e3⟩
  · refine (tfilled_first w g vt B l (.map none) s hs h4 (fun wy hk => (h2 wy (h3.trans hk (fun _ _ e => .inr e))).t) (fun wy hk => otb_kp hO hb (by omega) hk) h64).mono ?_
    rintro e w' ⟨M, k, rfl, hP⟩
    obtain ⟨p1, ⟨n, p2⟩, p3, p4, _⟩ := hP.out
    exact ⟨_, rfl, fls_itr p1, ⟨⟨wt, vt, B, 1, .map (some M), h1, h2, h3.trans p4 (fun _ _ e => .inr e), p3, .inr ⟨rfl, M, n, _, rfl, fls_itr p1, p2⟩⟩, hg⟩, p4⟩
  · refine (tfilled_again w g vt B M n F s hs h4 e3).mono ?_
    rintro e w' ⟨rfl, hb'⟩
    exact ⟨F, rfl, e2, Tst.next ⟨⟨wt, vt, B, 1, .map (some M), h1, h2, h3, h4, .inr ⟨rfl, M, n, F, rfl, e2, e3⟩⟩, hg⟩ hb', Kp.mono (Kp.of_below (S := fun _ => False) hb') (fun _ _ e => e.elim)⟩
end
section
open Go.RowKit Go
def bl11 (s : ByteArray) : List UInt8 := s.data.toList
def nml (l : List Tp) : List (List UInt8) := owns.map (fun p => bl11 p.1) ++ l.map (fun t => bl11 t.n)
def srn (l : List Tp) : List (List UInt8) := (nml l).mergeSort (fun x y => decide (x ≤ y))
def nms (l : List Tp) : List ByteArray := (srn l).map (fun z => ⟨z.toArray⟩)
theorem bl_back (s : ByteArray) : (⟨(bl11 s).toArray⟩ : ByteArray) = s := by
  unfold bl11
  rw [Array.toArray_toList]
theorem bl_inj {s t : ByteArray} (h : bl11 s = bl11 t) : s = t := by rw [← bl_back s, ← bl_back t, h]
theorem srn_perm (l : List Tp) : (srn l).Perm (nml l) := List.mergeSort_perm _ _
theorem srn_len (l : List Tp) : (srn l).length = l.length + 9 := by
  rw [(srn_perm l).length_eq]
  unfold nml
  rw [List.length_append, List.length_map, List.length_map]
  show 9 + _ = _
  omega
theorem nms_len (l : List Tp) : (nms l).length = l.length + 9 := by
  unfold nms
  rw [List.length_map, srn_len]
theorem owns_mem (s : ByteArray) : s ∈ owns.map (·.1) ↔ s ∈ own9 := by
  have h1 : (owns.map (·.1)).all (fun s => memb own9 s) = true := by decide
  have h2 : own9.all (fun s => memb (owns.map (·.1)) s) = true := by decide
  exact ⟨fun h => memb_iff.1 (List.all_eq_true.1 h1 s h), fun h => memb_iff.1 (List.all_eq_true.1 h2 s h)⟩
theorem nml_mem (l : List Tp) (s : ByteArray) : bl11 s ∈ nml l ↔ s ∈ own9 ∨ ∃ t ∈ l, t.n = s := by
  unfold nml
  rw [List.mem_append, ← owns_mem]
  constructor
  · rintro (h | h)
    · obtain ⟨p, hp, e⟩ := List.mem_map.1 h
      exact .inl (List.mem_map.2 ⟨p, hp, bl_inj e⟩)
    · obtain ⟨t, ht, e⟩ := List.mem_map.1 h
      exact .inr ⟨t, ht, bl_inj e⟩
  · rintro (h | ⟨t, ht, rfl⟩)
    · obtain ⟨p, hp, e⟩ := List.mem_map.1 h
      exact .inl (List.mem_map.2 ⟨p, hp, by rw [e]⟩)
    · exact .inr (List.mem_map.2 ⟨t, ht, rfl⟩)
theorem nms_mem (l : List Tp) (s : ByteArray) : s ∈ nms l ↔ s ∈ own9 ∨ ∃ t ∈ l, t.n = s := by
  rw [← nml_mem, ← (srn_perm l).mem_iff]
  unfold nms
  constructor
  · intro h
    obtain ⟨z, hz, rfl⟩ := List.mem_map.1 h
    unfold bl11
    simpa using hz
  · intro h
    exact List.mem_map.2 ⟨_, h, bl_back s⟩
theorem srn_le (l : List Tp) : (srn l).Pairwise (fun x y => x ≤ y) := by
  have := List.pairwise_mergeSort (le := fun (x y : List UInt8) => decide (x ≤ y)) (fun a b c h1 h2 => by simp only [decide_eq_true_eq] at *; exact List.le_trans h1 h2) (fun a b => by simp only [Bool.or_eq_true, decide_eq_true_eq]; exact List.le_total a b) (nml l)
  exact this.imp (fun h => of_decide_eq_true h)
theorem lt_of11 {x y : List UInt8} (h : x ≤ y) (h2 : x ≠ y) : x < y := by
  rcases Decidable.em (x < y) with h3 | h3
  · exact h3
  · exact absurd (List.le_antisymm h (List.not_lt.1 h3)) h2
theorem gdl_nodup {l : List Tp} (g : Gdl l) : (l.map (fun t => bl11 t.n)).Nodup := by
  unfold List.Nodup
  rw [List.pairwise_iff_getElem]
  intro i j hi hj hij e
  simp only [List.getElem_map] at e
  rw [List.length_map] at hi hj
  have := g.one i j _ _ (List.getElem?_eq_getElem hi) (List.getElem?_eq_getElem hj) (bl_inj e)
  omega
theorem nml_nodup {l : List Tp} (g : Gdl l) : (nml l).Nodup := by
  unfold nml
  rw [List.nodup_append]
  refine ⟨by decide, gdl_nodup g, fun a ha b hb e => ?_⟩
  subst e
  obtain ⟨p, hp, e1⟩ := List.mem_map.1 ha
  obtain ⟨t, ht, e2⟩ := List.mem_map.1 hb
  have e3 := bl_inj (e1.trans e2.symm)
  exact g.own t ht ((owns_mem t.n).1 (List.mem_map.2 ⟨p, hp, e3⟩))
theorem srn_lt {l : List Tp} (g : Gdl l) : (srn l).Pairwise (fun x y => x < y) := by
  have h1 := srn_le l
  have h2 : (srn l).Nodup := (srn_perm l).nodup_iff.2 (nml_nodup g)
  exact (h1.and h2).imp (fun h => lt_of11 h.1 h.2)
theorem srt_eq11 : ∀ {a b : List (List UInt8)}, a.Pairwise (fun x y => x < y) → b.Pairwise (fun x y => x < y) → (∀ x, x ∈ a ↔ x ∈ b) → a = b
  | [], [], _, _, _ => rfl
  | [], y :: b, _, _, h => absurd ((h y).2 (List.mem_cons_self ..)) (by simp)
  | x :: a, [], _, _, h => absurd ((h x).1 (List.mem_cons_self ..)) (by simp)
  | x :: a, y :: b, ha, hb, h => by
    obtain ⟨ha1, ha2⟩ := List.pairwise_cons.1 ha
    obtain ⟨hb1, hb2⟩ := List.pairwise_cons.1 hb
    have e : x = y := by
      rcases List.mem_cons.1 ((h x).1 (List.mem_cons_self ..)) with e | e
      · exact e
      · rcases List.mem_cons.1 ((h y).2 (List.mem_cons_self ..)) with e2 | e2
        · exact e2.symm
        · exact absurd (hb1 x e) (List.lt_asymm (ha1 y e2))
    subst e
    congr 1
    refine srt_eq11 ha2 hb2 (fun z => ⟨fun hz => ?_, fun hz => ?_⟩)
    · rcases List.mem_cons.1 ((h z).1 (List.mem_cons_of_mem _ hz)) with e | e
      · subst e; exact absurd (ha1 z hz) (List.lt_irrefl z)
      · exact e
    · rcases List.mem_cons.1 ((h z).2 (List.mem_cons_of_mem _ hz)) with e | e
      · subst e; exact absurd (hb1 z hz) (List.lt_irrefl z)
      · exact e
end
section
open Go.RowKit Go

end
section
open Go.RowKit Go
theorem Tyo.kp {S : Nat → Prop} {w w' : World} {b b' : Nat} {D D' : Nat → Prop} {c : Array Value} (h : Tyo w b D c) (hk : Kp S w w') (hs : ∀ q, D q → ¬ S q) (hD : ∀ q, D q → b' ≤ q ∧ D' q) : Tyo w' b' D' c := by
  obtain ⟨t, vf, vc, vw, nf, nc, nw, xf, xc, xw, e, o1, o2, o3, l1, l2, l3, d1, d2, d3⟩ := h.e
  exact ⟨t, vf, vc, vw, nf, nc, nw, xf, xc, xw, e, own_rebase (hk.owns o1 (fun q e h => hs q (d1 q e) h)) (fun q e => (hD q (d1 q e)).1), own_rebase (hk.owns o2 (fun q e h => hs q (d2 q e) h)) (fun q e => (hD q (d2 q e)).1), own_rebase (hk.owns o3 (fun q e h => hs q (d3 q e) h)) (fun q e => (hD q (d3 q e)).1), l1, l2, l3, fun q e => (hD q (d1 q e)).2, fun q e => (hD q (d2 q e)).2, fun q e => (hD q (d3 q e)).2⟩
set_option maxRecDepth 1000000 in
set_option maxHeartbeats 1000000 in
theorem tfindo_any (w : World) (hO : Otb w) (g : Nat) (l : List Tp) (d : Int) (m : Value) (hTb : Tbl w g l d m) (hS : Shrt l) (s : ByteArray) (hs : s.size ≤ 140737488351232) : Calls Tryz.prog 16 #[.pointer (some ⟨g, 0, none⟩), .string s] w fun e w' => ∃ c, e = .returned (.tuple #[.agg c, .bool (fnd l s).2]) ∧ Hid (Tpi w' (fnd l s).1 c ∧ Below w.heap.size w w' ∧ ∀ (S : Nat → Prop) wy, (∀ q, S q → q < w.heap.size) → Kp S w' wy → Tpi wy (fnd l s).1 c) ∧ Hid (Tyo w' w.heap.size (fun q => w.heap.size ≤ q ∧ q < w'.heap.size) c) := by
  have HO := hide hO
  have HS := hide hs
  have HSF := hide (shrt_fnd hS s)
  obtain ⟨vt, B, hg, hB, _⟩ := hTb.e
  have HB := hide hB
  obtain ⟨⟨⟨a, cap, rfl, _, _⟩, _⟩, _⟩ := hB
  have hb0 := below_alloc4 w (.cells #[.string ⟨#[]⟩, .int .i64 0, .int .i64 0, .int .i64 0, .string ⟨#[]⟩, .bool false, .slice none 0 0, .slice none 0 0, .slice none 0 0] 69)
  have HB0 := hide hb0
  have hg1 := (hb0.block _ (blk_lt hg)).trans hg
  have HCB : Hid (∀ j u, (#[.slice a l.length cap, .map (some B)] : Array Value)[j]? = some u → (w.alloc (.cells #[.string ⟨#[]⟩, .int .i64 0, .int .i64 0, .int .i64 0, .string ⟨#[]⟩, .bool false, .slice none 0 0, .slice none 0 0, .slice none 0 0] 69)).cell? ⟨g, 0 + j, none⟩ = some u) := sub_cell (o := 0) hg1 (fun j u hj => by
    rcases j with _ | _ | j
    · exact hj
    · exact hj
    · simp at hj)
  have HR0 := hide (heap_alloc_new w (.cells #[.string ⟨#[]⟩, .int .i64 0, .int .i64 0, .int .i64 0, .string ⟨#[]⟩, .bool false, .slice none 0 0, .slice none 0 0, .slice none 0 0] 69))
  have HIB := hide infoBk
  have HAB : Hid (∀ w, (isAgg 76).run Tryz.prog w = .ok true w) := aggBk
  have HIT := hide infoTp
  have HAT : Hid (∀ w, (isAgg 69).run Tryz.prog w = .ok true w) := aggTp
  clear hO hs hTb hS hb0 hg hg1
  go_enter Tryz.func16, Tryz.ntmps16
  go_wp2_with (refine wpList_aggAt rfl rfl HIB.out HAB.out g 0 #[.slice a l.length cap, .map (some B)] rfl rfl HCB.out ?_)
  generalize w.alloc (.cells #[.string ⟨#[]⟩, .int .i64 0, .int .i64 0, .int .i64 0, .string ⟨#[]⟩, .bool false, .slice none 0 0, .slice none 0 0, .slice none 0 0] 69) = w1 at *
  refine (find_any w1 (HO.out.next (keep_below HB0.out)) _ B l (HB.out.next HB0.out) s HS.out).mono ?_
  rintro e w2 ⟨c, rfl, hc, hb⟩
  obtain ⟨t, ht⟩ : ∃ t, t = (fnd l s).1 := ⟨_, rfl⟩
  have HTE := hide ht
  rw [← ht] at hc HSF
  clear ht
  have HC := hide hc
  obtain ⟨⟨vf, vc, vw, rfl, ⟨⟨af, cf, rfl, -, -⟩, -⟩, ⟨⟨ac, cc, rfl, -, -⟩, -⟩, ⟨⟨aw, cw, rfl, -, -⟩, -, -⟩⟩, -⟩ := hc
  unfold tpc at HC
  unfold tpc
  have hb3 := below_alloc4 w2 (.cells #[.string t.n, .int .i64 t.k, .int .i64 t.lo, .int .i64 t.hi, .string t.r.n, .bool t.r.z, .slice af t.fs.length cf, .slice ac t.cs.length cc, .slice aw t.ws.length cw] 69)
  have hr2 := (hb.block _ (blk_lt HR0.out)).trans HR0.out
  have HR3 := hide ((hb3.block _ (blk_lt hr2)).trans hr2)
  have HB3 : Hid (Below w.heap.size w (w2.alloc (.cells #[.string t.n, .int .i64 t.k, .int .i64 t.lo, .int .i64 t.hi, .string t.r.n, .bool t.r.z, .slice af t.fs.length cf, .slice ac t.cs.length cc, .slice aw t.ws.length cw] 69))) := (HB0.out.trans (hb.mono HB0.out.size)).trans (hb3.mono (Nat.le_trans HB0.out.size hb.size))
  have HC3 := hide (HC.out.move (keep_below hb3))
  have HTC : Hid (∀ j u, (#[.string t.n, .int .i64 t.k, .int .i64 t.lo, .int .i64 t.hi, .string t.r.n, .bool t.r.z, .slice af t.fs.length cf, .slice ac t.cs.length cc, .slice aw t.ws.length cw] : Array Value)[j]? = some u → (w2.alloc (.cells #[.string t.n, .int .i64 t.k, .int .i64 t.lo, .int .i64 t.hi, .string t.r.n, .bool t.r.z, .slice af t.fs.length cf, .slice ac t.cs.length cc, .slice aw t.ws.length cw] 69)).cell? ⟨w2.heap.size, 0 + j, none⟩ = some u) := fun j u hu => by rw [Nat.zero_add]; exact blk_cell (heap_alloc_new w2 _) hu
  clear hb hb3 hr2 HC HCB HR0
  go_wp2_with (refine wpList_aggAt rfl rfl HIT.out HAT.out w2.heap.size 0 #[.string t.n, .int .i64 t.k, .int .i64 t.lo, .int .i64 t.hi, .string t.r.n, .bool t.r.z, .slice af t.fs.length cf, .slice ac t.cs.length cc, .slice aw t.ws.length cw] rfl rfl HTC.out ?_)
  generalize w2.alloc (.cells #[.string t.n, .int .i64 t.k, .int .i64 t.lo, .int .i64 t.hi, .string t.r.n, .bool t.r.z, .slice af t.fs.length cf, .slice ac t.cs.length cc, .slice aw t.ws.length cw] 69) = w3 at *
  refine (fresho_any w3 t _ HC3.out HSF.out.1 HSF.out.2.1 HSF.out.2.2).mono ?_
  rintro e w4 ⟨c', rfl, hP⟩
  have hb4 := hP.out.2.1
  have HR4 := hide ((hb4.block _ (blk_lt HR3.out)).trans HR3.out)
  have HB4 : Hid (Below w.heap.size w w4) := HB3.out.trans (hb4.mono HB3.out.size)
  have HK4 : Hid (∀ wy, Kp (fun q => q ≤ w.heap.size) w4 wy → Tpi wy t c') := fun wy hk => hP.out.2.2.1 _ wy (fun q e => Nat.lt_of_le_of_lt e (blk_lt HR3.out)) hk
  have HTY := hide hP.out.2.2.2
  have HW3 : Hid (w.heap.size < w3.heap.size) := blk_lt HR3.out
  have HZ9 := hide hP.out.1.size9
  have HA1 := hide hP.out.1.all1
  have HI2 : Hid ((Tryz.prog.info? 69).map (·.size) = some c'.size) := by show _ = _; rw [HZ9.out]; exact infoTp
  have HZ2 : Hid ((#[.string ⟨#[]⟩, .int .i64 0, .int .i64 0, .int .i64 0, .string ⟨#[]⟩, .bool false, .slice none 0 0, .slice none 0 0, .slice none 0 0] : Array Value).size = c'.size) := by show _ = _; rw [HZ9.out]; rfl
  clear hP hb4 HR3 HB3 HC3 HTC
  go_wp2_with (refine wpList_storeRow rfl rfl w.heap.size #[.string ⟨#[]⟩, .int .i64 0, .int .i64 0, .int .i64 0, .string ⟨#[]⟩, .bool false, .slice none 0 0, .slice none 0 0, .slice none 0 0] c' 69 rfl rfl HR4.out HI2.out HZ2.out HA1.out ?_)
  have hkr := row_kp w4 w.heap.size c'
  exact bodyPost_ret (end_ct rfl (row_same HR4.out) rfl rfl Tryz.underlying69 HI2.out) rfl ⟨_, rfl, ⟨HTE.out ▸ HK4.out _ (hkr.mono (fun q _ e => by omega)), HB4.out.trans (hkr.below HB4.out.size (fun q e => by omega)), fun S wy hS hk => HTE.out ▸ HK4.out _ ((hkr.mono (fun q _ e => by omega)).trans hk (fun q _ e => by have := hS q e; omega))⟩, Tyo.kp HTY.out hkr (fun q h e => by have := HW3.out; omega) (fun q h => by have := HW3.out; have := hkr.size; omega)⟩

theorem tst_findo {w : World} {N top g : Nat} {l : List Tp} (h : Tst w N top g l) (hO : Otb w) (hS : Shrt l) (s : ByteArray) (hs : s.size ≤ 140737488351232) : Calls Tryz.prog 16 #[.pointer (some ⟨g, 0, none⟩), .string s] w fun e w' => ∃ c, e = .returned (.tuple #[.agg c, .bool (fnd l s).2]) ∧ Hid (Tpi w' (fnd l s).1 c ∧ Below w.heap.size w w' ∧ ∀ (S : Nat → Prop) wy, (∀ q, S q → q < w.heap.size) → Kp S w' wy → Tpi wy (fnd l s).1 c) ∧ Hid (Tyo w' w.heap.size (fun q => w.heap.size ≤ q ∧ q < w'.heap.size) c) := by
  obtain ⟨d, m, ht⟩ := h.tbl
  exact tfindo_any w hO g l d m ht hS s hs
set_option maxRecDepth 1000000 in
set_option maxHeartbeats 1000000 in
theorem tst_baseo {w : World} {N top g : Nat} {l : List Tp} (h : Tst w N top g l) (hO : Otb w) (hS : Shrt l) (hl : ∀ t ∈ l, t.r.n.size ≤ 140737488351232) (s : ByteArray) (hs : s.size ≤ 140737488351232) : Calls Tryz.prog 31 #[.pointer (some ⟨g, 0, none⟩), .string s] w fun e w' => ∃ c, e = .returned (.tuple #[.agg c, .bool (fnd l (flo l s).1).2]) ∧ Hid (Tpi w' (fnd l (flo l s).1).1 c ∧ Below w.heap.size w w' ∧ ∀ (S : Nat → Prop) wy, (∀ q, S q → q < w.heap.size) → Kp S w' wy → Tpi wy (fnd l (flo l s).1).1 c) ∧ Hid (Tyo w' w.heap.size (fun q => w.heap.size ≤ q ∧ q < w'.heap.size) c) := by
  have HO := hide hO
  have HS := hide hs
  have HH := hide h
  have HSH := hide hS
  have HL := hide hl
  have HFZ : Hid ((flo l s).1.size ≤ 140737488351232) := flw_sz hl _ _ _ hs
  obtain ⟨d, m, hTb⟩ := h.tbl
  obtain ⟨vt, B, hg, hB, _⟩ := hTb.e
  have HBk := hide hB
  obtain ⟨⟨⟨a, cap, rfl, _, _⟩, _⟩, _⟩ := hB
  have hb0 := below_alloc4 w (.cells #[.string ⟨#[]⟩, .int .i64 0, .int .i64 0, .int .i64 0, .string ⟨#[]⟩, .bool false, .slice none 0 0, .slice none 0 0, .slice none 0 0] 69)
  have HB0 := hide hb0
  have hg1 := (hb0.block _ (blk_lt hg)).trans hg
  have HCB : Hid (∀ j u, (#[.slice a l.length cap, .map (some B)] : Array Value)[j]? = some u → (w.alloc (.cells #[.string ⟨#[]⟩, .int .i64 0, .int .i64 0, .int .i64 0, .string ⟨#[]⟩, .bool false, .slice none 0 0, .slice none 0 0, .slice none 0 0] 69)).cell? ⟨g, 0 + j, none⟩ = some u) := sub_cell (o := 0) hg1 (fun j u hj => by
    rcases j with _ | _ | j
    · exact hj
    · exact hj
    · simp at hj)
  have HR0 := hide (heap_alloc_new w (.cells #[.string ⟨#[]⟩, .int .i64 0, .int .i64 0, .int .i64 0, .string ⟨#[]⟩, .bool false, .slice none 0 0, .slice none 0 0, .slice none 0 0] 69))
  have HIB := hide infoBk
  have HAB : Hid (∀ w, (isAgg 76).run Tryz.prog w = .ok true w) := aggBk
  clear hO hs hTb hS hb0 hg hg1 h hl
  go_enter Tryz.func31, Tryz.ntmps31
  go_wp2_with (refine wpList_aggAt rfl rfl HIB.out HAB.out g 0 #[.slice a l.length cap, .map (some B)] rfl rfl HCB.out ?_)
  generalize w.alloc (.cells #[.string ⟨#[]⟩, .int .i64 0, .int .i64 0, .int .i64 0, .string ⟨#[]⟩, .bool false, .slice none 0 0, .slice none 0 0, .slice none 0 0] 69) = w1 at *
  refine (follow_any w1 (HO.out.next (keep_below HB0.out)) _ B l (HBk.out.next HB0.out) HL.out s HS.out).mono ?_
  rintro e w2 ⟨rfl, hb2⟩
  have HB2 : Hid (Below w.heap.size w w2) := HB0.out.trans (hb2.mono HB0.out.size)
  have HR2 := hide ((hb2.block _ (blk_lt HR0.out)).trans HR0.out)
  clear hb2 HR0 HCB HBk
  generalize hEZ : flo l s = EZ at *
  obtain ⟨E, Z⟩ := EZ
  have HEZ := hide hEZ
  clear hEZ
  go_wp2_with (refine wpList_ex rfl (exec_name rfl rfl) ?_)
  refine (tst_findo (HH.out.next HB2.out) (HO.out.next (keep_below HB2.out)) HSH.out E HFZ.out).mono ?_
  rintro e w4 ⟨c', rfl, hP, HTY⟩
  have hb4 := hP.out.2.1
  have HW3 : Hid (w.heap.size < w2.heap.size) := blk_lt HR2.out
  have HR4 := hide ((hb4.block _ (blk_lt HR2.out)).trans HR2.out)
  have HB4 : Hid (Below w.heap.size w w4) := HB2.out.trans (hb4.mono HB2.out.size)
  have HK4 : Hid (∀ wy, Kp (fun q => q ≤ w.heap.size) w4 wy → Tpi wy (fnd l E).1 c') := fun wy hk => hP.out.2.2 _ wy (fun q e => Nat.lt_of_le_of_lt e (blk_lt HR2.out)) hk
  have HZ9 := hide hP.out.1.size9
  have HA1 := hide hP.out.1.all1
  have HI2 : Hid ((Tryz.prog.info? 69).map (·.size) = some c'.size) := by show _ = _; rw [HZ9.out]; exact infoTp
  have HZ2 : Hid ((#[.string ⟨#[]⟩, .int .i64 0, .int .i64 0, .int .i64 0, .string ⟨#[]⟩, .bool false, .slice none 0 0, .slice none 0 0, .slice none 0 0] : Array Value).size = c'.size) := by show _ = _; rw [HZ9.out]; rfl
  clear hP hb4 HR2 HB2
  generalize hbb : (fnd l E).2 = bb at *
  have HBB := hide hbb
  clear hbb
  go_wp2_with (refine wpList_storeRow rfl rfl w.heap.size #[.string ⟨#[]⟩, .int .i64 0, .int .i64 0, .int .i64 0, .string ⟨#[]⟩, .bool false, .slice none 0 0, .slice none 0 0, .slice none 0 0] c' 69 rfl rfl HR4.out HI2.out HZ2.out HA1.out ?_)
  have hkr := row_kp w4 w.heap.size c'
  have hE : (flo l s).1 = E := by rw [HEZ.out]
  exact bodyPost_ret (end_ct rfl (row_same HR4.out) rfl rfl Tryz.underlying69 HI2.out) rfl ⟨c', by rw [hE, HBB.out]; rfl, ⟨by rw [hE]; exact HK4.out _ (hkr.mono (fun q _ e => by omega)), HB4.out.trans (hkr.below HB4.out.size (fun q e => by omega)), fun S wy hS hk => by rw [hE]; exact HK4.out _ ((hkr.mono (fun q _ e => by omega)).trans hk (fun q _ e => by have := hS q e; omega))⟩, Tyo.kp HTY.out hkr (fun q h e => by have := HW3.out; omega) (fun q h => by have := HW3.out; have := hkr.size; omega)⟩
end
section
open Go.RowKit Go
def lt11 (s : ByteArray) (x : ByteArray) : Bool := decide (bl11 x < bl11 s)
def rins (L : List ByteArray) (s : ByteArray) : List ByteArray := L.takeWhile (lt11 s) ++ ([s] ++ L.dropWhile (lt11 s))
def rnm (l : List Tp) : List ByteArray := l.foldl (fun L t => rins L t.n) bltn
theorem take_while11 {p : ByteArray → Bool} : ∀ (L : List ByteArray) (k : Nat), (∀ j x, j < k → L[j]? = some x → p x = true) → (∀ x, L[k]? = some x → p x = false) → k ≤ L.length → L.take k = L.takeWhile p ∧ L.drop k = L.dropWhile p
  | [], k, _, _, hk => by
    have e : k = 0 := by simpa using hk
    subst e
    exact ⟨rfl, rfl⟩
  | y :: L, 0, _, h, _ => by
    have := h y rfl
    rw [List.takeWhile_cons, List.dropWhile_cons, this]
    exact ⟨rfl, rfl⟩
  | y :: L, k + 1, h1, h2, hk => by
    have hy := h1 0 y (by omega) rfl
    have ih := take_while11 L k (fun j x hj hx => h1 (j + 1) x (by omega) (by simpa using hx)) (fun x hx => h2 x (by simpa using hx)) (by simpa using hk)
    rw [List.takeWhile_cons, List.dropWhile_cons, hy]
    simp only [if_true, List.take_succ_cons, List.drop_succ_cons]
    rw [ih.1, ih.2]
    exact ⟨rfl, rfl⟩
def Ris11 (L : List ByteArray) : Prop := L.Pairwise (fun x y => bl11 x < bl11 y)
theorem takeW_all {p : ByteArray → Bool} : ∀ (L : List ByteArray), ∀ x ∈ L.takeWhile p, p x = true
  | [], _, h => by cases h
  | y :: L, x, h => by
    rw [List.takeWhile_cons] at h
    split at h
    · rename_i hy
      rcases List.mem_cons.1 h with rfl | h
      · exact hy
      · exact takeW_all L x h
    · cases h
theorem dropW_ge {s : ByteArray} : ∀ (L : List ByteArray), Ris11 L → s ∉ L → ∀ x ∈ L.dropWhile (lt11 s), bl11 s < bl11 x
  | [], _, _, _, h => by cases h
  | y :: L, hr, hs, x, h => by
    rw [List.dropWhile_cons] at h
    split at h
    · exact dropW_ge L (List.pairwise_cons.1 hr).2 (fun e => hs (List.mem_cons_of_mem _ e)) x h
    · rename_i hy
      have hsy : bl11 s < bl11 y := by
        have h1 : ¬ bl11 y < bl11 s := by simpa [lt11] using hy
        exact lt_of11 (List.not_lt.1 h1) (fun e => hs (by rw [bl_inj e]; exact List.mem_cons_self ..))
      rcases List.mem_cons.1 h with rfl | h
      · exact hsy
      · exact List.lt_trans hsy ((List.pairwise_cons.1 hr).1 x h)
theorem rins_mem {L : List ByteArray} {s x : ByteArray} : x ∈ rins L s ↔ x ∈ L ∨ x = s := by
  unfold rins
  rw [List.mem_append, List.mem_append, List.mem_singleton]
  conv => rhs; rw [← List.takeWhile_append_dropWhile (p := lt11 s) (l := L), List.mem_append]
  constructor
  · rintro (h | h | h)
    · exact .inl (.inl h)
    · exact .inr h
    · exact .inl (.inr h)
  · rintro ((h | h) | h)
    · exact .inl h
    · exact .inr (.inr h)
    · exact .inr (.inl h)
theorem rins_rise {L : List ByteArray} {s : ByteArray} (h : Ris11 L) (hs : s ∉ L) : Ris11 (rins L s) := by
  have e := List.takeWhile_append_dropWhile (p := lt11 s) (l := L)
  have h' : Ris11 (L.takeWhile (lt11 s) ++ L.dropWhile (lt11 s)) := by rw [e]; exact h
  obtain ⟨h1, h2, h3⟩ := List.pairwise_append.1 h'
  have hlt : ∀ x ∈ L.takeWhile (lt11 s), bl11 x < bl11 s := fun x hx => of_decide_eq_true (takeW_all L x hx)
  have hge := dropW_ge L h hs
  unfold rins
  refine List.pairwise_append.2 ⟨h1, List.pairwise_append.2 ⟨List.pairwise_singleton _ _, h2, fun x hx y hy => ?_⟩, fun x hx y hy => ?_⟩
  · rw [List.mem_singleton.1 hx]
    exact hge y hy
  · rcases List.mem_append.1 hy with hy | hy
    · rw [List.mem_singleton.1 hy]
      exact hlt x hx
    · exact h3 x hx y hy
theorem rnm_all : ∀ (r : List Tp) (L : List ByteArray) (T : List Tp), Gdl (T ++ r) → Ris11 L → (∀ x, x ∈ L ↔ x ∈ own9 ∨ ∃ t ∈ T, t.n = x) → Ris11 (r.foldl (fun L t => rins L t.n) L) ∧ ∀ x, x ∈ r.foldl (fun L t => rins L t.n) L ↔ x ∈ own9 ∨ ∃ t ∈ T ++ r, t.n = x
  | [], L, T, _, hr, hm => ⟨hr, fun x => by rw [List.append_nil]; exact hm x⟩
  | t :: r, L, T, g, hr, hm => by
    have hs : t.n ∉ L := fun h => by
      rcases (hm t.n).1 h with h | ⟨u, hu, hn⟩
      · exact g.own t (by simp) h
      · obtain ⟨i, hi, e⟩ := List.getElem_of_mem hu
        have := g.one i T.length u t (by rw [List.getElem?_append_left hi, List.getElem?_eq_getElem hi, e]) (by simp) hn
        omega
    have ih := rnm_all r (rins L t.n) (T ++ [t]) (by rw [List.append_assoc]; exact g) (rins_rise hr hs) (fun x => by
      rw [rins_mem, hm x]
      constructor
      · rintro ((h | ⟨u, hu, hn⟩) | h)
        · exact .inl h
        · exact .inr ⟨u, List.mem_append_left _ hu, hn⟩
        · exact .inr ⟨t, by simp, h.symm⟩
      · rintro (h | ⟨u, hu, hn⟩)
        · exact .inl (.inl h)
        · rcases List.mem_append.1 hu with hu | hu
          · exact .inl (.inr ⟨u, hu, hn⟩)
          · rw [List.mem_singleton.1 hu] at hn
            exact .inr hn.symm)
    rw [List.append_assoc] at ih
    exact ih
theorem bltn_rise : Ris11 bltn := by
  unfold Ris11 bl11
  decide
theorem bltn_own9 (x : ByteArray) : x ∈ bltn ↔ x ∈ own9 := by
  have h1 : bltn.all (fun s => memb own9 s) = true := by decide
  have h2 : own9.all (fun s => memb bltn s) = true := by decide
  exact ⟨fun h => memb_iff.1 (List.all_eq_true.1 h1 x h), fun h => memb_iff.1 (List.all_eq_true.1 h2 x h)⟩
theorem rnm_nms {l : List Tp} (g : Gdl l) : rnm l = nms l := by
  obtain ⟨h1, h2⟩ := rnm_all l bltn [] g bltn_rise (fun x => by simp [bltn_own9])
  have e : (rnm l).map bl11 = srn l := srt_eq11 (List.pairwise_map.2 h1) (srn_lt g) (fun z => by
    rw [(srn_perm l).mem_iff]
    have hz : bl11 (⟨z.toArray⟩ : ByteArray) = z := by unfold bl11; simp
    rw [← hz, nml_mem, List.mem_map]
    constructor
    · rintro ⟨x, hx, e⟩
      rw [← bl_inj e]
      exact (h2 x).1 hx
    · intro h
      exact ⟨_, (h2 _).2 h, rfl⟩)
  unfold nms
  rw [← e, List.map_map]
  have : ((fun z : List UInt8 => (⟨z.toArray⟩ : ByteArray)) ∘ bl11) = id := by
    funext s
    exact bl_back s
  rw [this, List.map_id]
def rfd1 (A : List ByteArray) (t : Tp) : List ByteArray := if (!memb A t.n && rulb A t) = true then A ++ [t.n] else A
def rfd (A : List ByteArray) (l : List Tp) : List ByteArray := l.foldl rfd1 A
def rfds (l : List Tp) : Nat → List ByteArray
  | 0 => bltn
  | n + 1 => rfd (rfds l n) l
def Sam11 (A B : List ByteArray) : Prop := ∀ x, x ∈ A ↔ x ∈ B
theorem sam_memb {A B : List ByteArray} (h : Sam11 A B) (x : ByteArray) : memb A x = memb B x := by
  rw [Bool.eq_iff_iff, memb_iff, memb_iff]
  exact h x
theorem sam_rulb {A B : List ByteArray} (h : Sam11 A B) (t : Tp) : rulb A t = rulb B t := by
  rw [Bool.eq_iff_iff]
  exact ⟨rulb_mono (fun x hx => (h x).1 hx), rulb_mono (fun x hx => (h x).2 hx)⟩
theorem rfd1_sam {F A B : List ByteArray} {l : List Tp} (f : Fls l F) {t : Tp} (ht : t ∈ l) (h : Sam11 A B) (hB : ∀ x ∈ B, x ∈ F) : Sam11 (rfd1 A t) (frd1 (fll F l) B t) := by
  unfold rfd1 frd1
  rw [sam_memb h, sam_rulb h]
  by_cases hc : (!memb B t.n && rulb B t) = true
  · have hr : rulb B t = true := by
      rw [Bool.and_eq_true] at hc
      exact hc.2
    have hF : t.n ∈ F := f.cl t ht (rulb_mono hB hr)
    have hm : memb (fll F l) t.n = true := memb_iff.2 (fll_mem.2 ⟨hF, t, ht, rfl⟩)
    rw [if_pos hc, hm, Bool.true_and, if_pos hc]
    intro x
    rw [List.mem_append, List.mem_append, h x]
  · rw [if_neg hc, if_neg (fun e => hc (by rw [Bool.and_eq_true] at e; exact e.2))]
    exact h
theorem rfd_sam {F : List ByteArray} {l : List Tp} (f : Fls l F) : ∀ (ts : List Tp) (A B : List ByteArray), (∀ t ∈ ts, t ∈ l) → Sam11 A B → Rdi F l B → Sam11 (rfd A ts) (frd (fll F l) B ts)
  | [], _, _, _, h, _ => h
  | t :: r, _, _, hl, h, hR => rfd_sam f r _ _ (fun u hu => hl u (List.mem_cons_of_mem _ hu)) (rfd1_sam f (hl t (List.mem_cons_self ..)) h (fun x hx => (full_mem f).1 (hR.sub x hx))) (hR.one t)
theorem rfds_sam {F : List ByteArray} {l : List Tp} (f : Fls l F) : ∀ n, Sam11 (rfds l n) (frds (fll F l) l n)
  | 0 => bltn_own9
  | n + 1 => rfd_sam f l _ _ (fun _ h => h) (rfds_sam f n) (Rdi.all n)
theorem rfds_fls {F : List ByteArray} {l : List Tp} (g : Gdl l) (f : Fls l F) (s : ByteArray) : memb (rfds l l.length) s = memb F s := by
  rw [sam_memb (rfds_sam f l.length), Bool.eq_iff_iff, memb_iff, memb_iff, ← full_mem f]
  have hR : Rdi F l (frds (fll F l) l l.length) := Rdi.all _
  refine ⟨hR.sub s, fun h => Classical.byContradiction fun hn => ?_⟩
  have hnd : (s :: frds (fll F l) l l.length).Nodup := List.nodup_cons.2 ⟨hn, hR.nd⟩
  have h1 := nodup_lenG _ (own9 ++ fll F l) hnd (fun x hx => by
    rcases List.mem_cons.1 hx with rfl | hx
    · exact h
    · exact hR.sub x hx)
  have h2 := frds_end g f
  have h3 : own9.length = 9 := rfl
  rw [List.length_cons, List.length_append] at h1
  omega
end
section
open Go.RowKit Go

end
section
open Go.RowKit Go
structure Cpw (w : World) (ta tc : Array Value) (wx : World) : Prop where
  a : wx.heap[w.heap.size]? = some (.cells ta 69 (0, 0))
  r : wx.heap[w.heap.size + 1]? = some (.cells #[.string ⟨#[]⟩, .int .i64 0, .int .i64 0, .int .i64 0, .string ⟨#[]⟩, .bool false, .slice none 0 0, .slice none 0 0, .slice none 0 0] 69 (0, 0))
  c : wx.heap[w.heap.size + 2]? = some (.cells tc 69 (0, 0))
  b : Below w.heap.size w wx
theorem Cpw.next {w wx wy : World} {ta tc : Array Value} (h : Cpw w ta tc wx) (hb : Below wx.heap.size wx wy) : Cpw w ta tc wy := ⟨(hb.block _ (blk_lt h.a)).trans h.a, (hb.block _ (blk_lt h.r)).trans h.r, (hb.block _ (blk_lt h.c)).trans h.c, h.b.trans (hb.mono h.b.size)⟩
theorem Cpw.set {w wx : World} {ta tc : Array Value} (h : Cpw w ta tc wx) (j : Nat) (v : Value) : Cpw w ta (tc.setIfInBounds j v) (wx.setCell ⟨w.heap.size + 2, j, none⟩ v) := ⟨blk_other j v h.a (by omega), blk_other j v h.r (by omega), blk_set j v h.c, h.b.trans (((Kp.refl (fun q => q = w.heap.size + 2) wx).setCell _ _ (fun _ => rfl)).below h.b.size (fun q e => by omega))⟩
theorem Cpw.start (w : World) (ta : Array Value) : Cpw w ta ta (((w.alloc (.cells ta 69)).alloc (.cells #[.string ⟨#[]⟩, .int .i64 0, .int .i64 0, .int .i64 0, .string ⟨#[]⟩, .bool false, .slice none 0 0, .slice none 0 0, .slice none 0 0] 69)).alloc (.cells ta 69)) := by
  have z : ∀ (V : World) (o : Obj), (V.alloc o).heap.size = V.heap.size + 1 := fun V o => by simp
  have h1 := heap_alloc_new w (.cells ta 69)
  have h2 := heap_alloc_new (w.alloc (.cells ta 69)) (.cells #[.string ⟨#[]⟩, .int .i64 0, .int .i64 0, .int .i64 0, .string ⟨#[]⟩, .bool false, .slice none 0 0, .slice none 0 0, .slice none 0 0] 69)
  have h3 := heap_alloc_new ((w.alloc (.cells ta 69)).alloc (.cells #[.string ⟨#[]⟩, .int .i64 0, .int .i64 0, .int .i64 0, .string ⟨#[]⟩, .bool false, .slice none 0 0, .slice none 0 0, .slice none 0 0] 69)) (.cells ta 69)
  simp only [z] at h2 h3
  have b1 := below_alloc4 w (.cells ta 69)
  have b2 := b1.alloc b1.size (.cells #[.string ⟨#[]⟩, .int .i64 0, .int .i64 0, .int .i64 0, .string ⟨#[]⟩, .bool false, .slice none 0 0, .slice none 0 0, .slice none 0 0] 69)
  exact ⟨blk_alloc _ (blk_alloc _ h1), blk_alloc _ h2, h3, b2.alloc b2.size _⟩
end
section
open Go.RowKit Go

end
section
open Go.RowKit Go

end
section
open Go.RowKit Go
section
variable {P : Program} {ops : Array Oper} {Q : Exit → Act → World → Prop} {md : Region.Mode} {k : Nat} {B : World → Prop}
end
section
variable {P : Program} {Q : Exit → Act → World → Prop} {k : Nat} {B : World → Prop} {l : List Oper} {fuel : Nat} {listed : Array Bool} {a : Act} {w : World}
end
end
section
open Go.RowKit Go

end
section
open Go.RowKit Go
theorem ssl_gsl {w : World} {v : Value} {ks : List ByteArray} (h : GSl 1 (fun _ (s : ByteArray) c => c = #[.string s]) w v ks) (hs : ∀ s ∈ ks, s.size ≤ 140737488351232) : SSl w v ks := by
  obtain ⟨⟨a, cap, e, hn, hc⟩, hm⟩ := h
  refine ⟨⟨a, cap, e, hn, ?_⟩, hm, hs⟩
  rcases hc with hc | ⟨b, off, ha, hc⟩
  · exact .inl hc
  · refine .inr ⟨b, off, ha, fun j s hj => ?_⟩
    obtain ⟨c, rfl, h3⟩ := hc j s hj
    have := h3 0 _ rfl
    rw [Nat.mul_one, Nat.add_zero] at this
    exact this
end
section
open Go.RowKit Go
def gst (L : List ByteArray) : List Value := gfl (L.map fun s => #[Value.string s])
structure Srw (A N7 : Nat) (v : Value) (L : List ByteArray) (wx : World) : Prop where
  o : wx.ownsRow A 9 1 v L.length (gst L)
  p : ∀ q, v.ownBlock = some q → q = A ∨ N7 ≤ q
  s : ∀ x ∈ L, x.size ≤ 140737488351232
theorem Srw.next {A N7 : Nat} {v : Value} {L : List ByteArray} {wx wy : World} (h : Srw A N7 v L wx) (hb : Below wx.heap.size wx wy) : Srw A N7 v L wy := ⟨(Kp.of_below (S := fun _ => False) hb).owns h.o (fun _ _ e => e), h.p, h.s⟩
theorem Srw.ssl {A N7 : Nat} {v : Value} {L : List ByteArray} {wx : World} (h : Srw A N7 v L wx) (hm : L.length ≤ 140737488351232) : SSl wx v L := by
  refine ssl_gsl (own_gsl (L := L.map fun s => #[Value.string s]) (by rw [List.length_map]; exact h.o) (fun c hc => ?_) (by rw [List.length_map]) hm (fun i x c hx hc => ?_)) h.s
  · obtain ⟨s, _, rfl⟩ := List.mem_map.1 hc
    rfl
  · rw [List.getElem?_map, hx] at hc
    exact (Option.some.inj hc).symm
theorem Srw.nil (A N7 : Nat) (wx : World) : Srw A N7 (.slice none 0 0) [] wx := ⟨World.ownsRow_nil _ _ _ _, fun _ e => (by cases e), fun _ h => (by cases h)⟩
theorem Srw.law {A N7 g : Nat} {a0 : Option Addr} {n0 c0 : Nat} {L : List ByteArray} {wx : World} {x : ByteArray} (h : Srw A N7 (.slice a0 n0 c0) L wx) (hx : x.size ≤ 140737488351232) (hlen : L.length ≤ 1000000) (hA : A ≤ wx.heap.size) (h7 : N7 ≤ wx.heap.size) (hg : wx.heap[g]? = some (.cells #[.string x] 9 (0, 0))) {ops : Array Oper} {rest : List Oper} {o : Oper} {ac : Act} {Q : Exit → Act → World → Prop} {s y : Operand} (h1 : o.guard = none) (h2 : o.op = .call { callee := .builtin .append, args := #[s, y], argTypes := #[23, 23] }) (h3 : ac.eval s = .slice a0 n0 c0) (h4 : ac.eval y = .slice (some ⟨g, 0, none⟩) 1 1)
    (h5 : ∀ a9 n9 c9 w', Hid (Srw A N7 (.slice a9 n9 c9) (L ++ [x]) w' ∧ wx.grownBy w' (Value.slice a0 n0 c0).ownBlock ∧ ((Value.slice a9 n9 c9).ownBlock = (Value.slice a0 n0 c0).ownBlock ∨ (Value.slice a9 n9 c9).ownBlock = some wx.heap.size)) → wpList Tryz.prog ops Q rest (ac.put o.dst (.slice a9 n9 c9)) w') : wpList Tryz.prog ops Q (o :: rest) ac wx := by
  have ho : wx.ownsRow A 9 1 (.slice a0 n0 c0) (L.map fun s => #[Value.string s]).length (gfl (L.map fun s => #[Value.string s])) := by rw [List.length_map]; exact h.o
  refine append_g infoS3 Tryz.underlying23 rfl (by decide) (by decide) h1 h2 h3 ho h4 hg rfl (fun u hu => by simp at hu; rw [hu]; rfl) (by rw [List.length_map]; exact hlen) hA (fun v' w' h6 h7' h8 => ?_)
  rw [List.length_map] at h6
  obtain ⟨a9, c9, hv9, _⟩ := own_formG h6
  subst hv9
  refine h5 _ _ _ w' ⟨⟨?_, fun q e => ?_, fun z hz => ?_⟩, h7', h8⟩
  · have e : gst (L ++ [x]) = gfl ((L.map fun s => #[Value.string s]) ++ [#[Value.string x]]) := by unfold gst; rw [List.map_append]; rfl
    rw [e, List.length_append]
    exact h6
  · rcases h8 with h8 | h8
    · rw [h8] at e
      exact h.p q e
    · rw [h8] at e
      exact .inr (by rw [← Option.some.inj e]; exact h7)
  · rcases List.mem_append.1 hz with hz | hz
    · exact h.s z hz
    · rw [List.mem_singleton.1 hz]; exact hx
theorem tsl_at {w : World} {a : Option Addr} {k : Nat} {l : List Tp} (h : TSl w (.slice a l.length k) l) {i : Nat} {t : Tp} (ht : l[i]? = some t) : ∃ b off c, a = some ⟨b, off, none⟩ ∧ Tpi w t c ∧ (∀ j u, c[j]? = some u → w.cell? ⟨b, off + i * 9 + j, none⟩ = some u) ∧ w.cell? ⟨b, off + i * 9, none⟩ = some (.string t.n) ∧ t.n.size ≤ 140737488351232 := by
  obtain ⟨a', k', e, _, hc⟩ := h.form
  injection e with e1 _ _
  subst e1
  rcases hc with hc | ⟨b, off, ha, hc⟩
  · rw [hc] at ht
    cases ht
  · obtain ⟨c, h1, h2⟩ := hc i t ht
    have h3 : c[0]? = some (.string t.n) := by
      obtain ⟨⟨_, _, _, rfl, _⟩, _⟩ := h1
      rfl
    exact ⟨b, off, c, ha, h1, h2, h2 0 _ h3, h1.b.n⟩
end
section
open Go.RowKit Go

end
section
open Go.RowKit Go
def bw (base w : Nat) : Prop := (base = 1 ∧ w = 4) ∨ (base = 2 ∧ w = 5)
end
section
open Go.RowKit Go
theorem nstr_eq {xs : List Nat} {S : ByteArray} (h : ∀ x ∈ xs, x < 256) : ((nstr xs).toList == S.toList) = decide (xs = sl S) := by
  by_cases e : xs = sl S
  · rw [e, nstr_sl]
    simp
  · rw [decide_eq_false e]
    refine beq_eq_false_iff_ne.2 fun h2 => e (nstr_inj h (sl_byte S) ?_)
    rw [nstr_sl]
    exact h2
end
section
open Go.RowKit Go
theorem nat_ne {a b : Nat} : ((a : Int) != (b : Int)) = decide (a ≠ b) := by
  rw [Bool.eq_iff_iff]
  simp
  omega
end
section
open Go.RowKit Go
theorem str_bne (s t : ByteArray) : (s.toList != t.toList) = !decide (s = t) := by
  have h := nstr_eq (S := t) (sl_byte s)
  rw [nstr_sl] at h
  unfold bne
  rw [h]
  congr 1
  by_cases e : s = t
  · rw [e]; simp
  · have e2 : sl s ≠ sl t := fun h2 => e (by rw [← nstr_sl s, h2, nstr_sl])
    simp [e, e2]
set_option maxRecDepth 1000000 in
set_option maxHeartbeats 400000 in
theorem eqStrings_any {w : World} {v u : Value} {ks ls : List ByteArray} (hv : SSl w v ks) (hu : SSl w u ls) :
    Calls Tryz.prog 28 #[v, u] w fun e w' => e = .returned (.bool (decide (ks = ls))) ∧ Below w.heap.size w w' := by
  generalize hR : decide (ks = ls) = R
  have HR := hide hR
  clear hR
  obtain ⟨⟨av, cv, rfl, _, hf⟩, hkm, _⟩ := hv
  obtain ⟨⟨au, cu, rfl, _, hg⟩, hlm, _⟩ := hu
  have HF := hide hf
  have HG := hide hg
  clear hf hg
  by_cases hl : ks.length = ls.length
  · have g0 : ((ks.length : Int) != (ls.length : Int)) = false := by rw [nat_ne]; simp [hl]
    have HL := hide hl
    clear hl
    go_enter Tryz.func28, Tryz.ntmps28
    go_wp2_with fail
    go_loopw [5] (fun ii wx => ∃ i : Nat, i ≤ ks.length ∧ ii = .int .i64 (i : Nat) ∧ Hid (∀ j, j < i → ks[j]? = ls[j]?) ∧ Hid (Below w.heap.size w wx)) (fun ii _ => ks.length - (intOf ii).toNat)
    case atStart => exact ⟨0, by omega, rfl, fun j hj => absurd hj (by omega), Below.refl _ _⟩
    case round =>
      obtain ⟨i, hi, rfl, HI, HBw⟩ := hrel
      by_cases hlt : i < ks.length
      · have g1 : (i : Int) < (ks.length : Int) := by omega
        have hlt2 : i < ls.length := by rw [← HL.out]; exact hlt
        have g2 : (i : Int) < (ls.length : Int) := by omega
        obtain ⟨s, hs⟩ : ∃ s, ks[i]? = some s := ⟨ks[i], List.getElem?_eq_getElem hlt⟩
        obtain ⟨t, ht⟩ : ∃ s, ls[i]? = some s := ⟨ls[i], List.getElem?_eq_getElem hlt2⟩
        obtain ⟨b, off, rfl, hcc⟩ := HF.out.resolve_left (fun h => by rw [h] at hlt; simp at hlt)
        obtain ⟨b2, off2, rfl, hcd⟩ := HG.out.resolve_left (fun h => by rw [h] at hlt2; simp at hlt2)
        have c1 := keep_below HBw.out _ _ (hcc i s hs)
        have c2 := keep_below HBw.out _ _ (hcd i t ht)
        clear hcc hcd HF HG
        by_cases he : s = t
        · as_aux_lemma =>
          have hne : (s.toList == t.toList) = true := by rw [he]; simp
          have HI2 : Hid (∀ j, j < i + 1 → ks[j]? = ls[j]?) := fun j hj => by
            by_cases hji : j = i
            · rw [hji, hs, ht, he]
            · exact HI.out j (by omega)
          clear he hs ht HI
          go_wp2_with fail
          go_region
          go_wp2_with fail
          have HB2 : Hid (Below w.heap.size w wr.drew) := HBw.out.drew
          go_roundw
          case rel => exact ⟨i + 1, by omega, by go_num, HI2, HB2⟩
          case measure => simp [intOf]; omega
        · as_aux_lemma =>
          have hne : (s.toList == t.toList) = false := by have h := str_bne s t; simp [he] at h; exact beq_eq_false_iff_ne.2 h
          have HN : Hid (ks ≠ ls) := fun h => by
            rw [h, ht] at hs
            exact he (Option.some.inj hs).symm
          clear he hs ht HI
          go_wp2_with fail
          go_region
          go_wp2_with fail
          go_ret
          exact ⟨by rw [← HR.out, decide_eq_false HN.out]; rfl, HBw.out.drew⟩
      · as_aux_lemma =>
        have g1 : ¬ (i : Int) < (ks.length : Int) := by omega
        have HN : Hid (ks = ls) := List.ext_getElem? fun j => by
          by_cases hj : j < i
          · exact HI.out j hj
          · rw [List.getElem?_eq_none (by omega), List.getElem?_eq_none (by rw [← HL.out]; omega)]
        go_wp2_with fail
        go_ret
        exact ⟨by rw [← HR.out, decide_eq_true HN.out]; rfl, HBw.out⟩
  · as_aux_lemma =>
    have g0 : ((ks.length : Int) != (ls.length : Int)) = true := by rw [nat_ne]; simp [hl]
    have HN : Hid (ks ≠ ls) := fun h => hl (by rw [h])
    clear hl HF HG
    go_enter Tryz.func28, Tryz.ntmps28
    go_wp2_with fail
    go_ret
    exact ⟨by rw [← HR.out, decide_eq_false HN.out]; rfl, Below.refl _ _⟩
end
end Go.Proofs.YtbbalhfjgpaabaaGreatDoor
