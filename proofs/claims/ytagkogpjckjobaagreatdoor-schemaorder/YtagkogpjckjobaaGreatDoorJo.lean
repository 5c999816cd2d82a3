import Derived.Test.YtagkogpjckjobaaGreatDoorJl
import Derived.Test.YtagkogpjckjobaaGreatDoorSlst
import Derived.Test.YtagkogpjckjobaaGreatDoorJn
import Derived.Sort.OwnSorted
import Derived.Test.YtagkogpjckjobaaGreatDoorJd
namespace Go.Proofs.YtagkogpjckjobaaGreatDoor
section
open Go.RowKit Go
/-! ### Names -/
theorem sv_enc (L : List ByteArray) : sv L = (L.map bl11).map encStr := by
  unfold sv
  rw [List.map_map]
  refine List.map_congr_left (fun s _ => ?_)
  show Value.string s = encStr (bl11 s)
  unfold encStr
  rw [bl_back]
theorem srn_sv (l : List Tp) : (srn l).map encStr = sv (nms l) := by
  unfold nms sv
  rw [List.map_map]
  rfl
theorem nml_eq (l : List Tp) : (owns.map (·.1) ++ l.map (·.n)).map bl11 = nml l := by
  unfold nml
  rw [List.map_append, List.map_map, List.map_map]
  rfl
theorem owns_sz : ∀ s ∈ owns.map (·.1), s.size ≤ 140737488351232 := fun s hs => by
  have h : (owns.map (·.1)).all (fun s => decide (s.size ≤ 140737488351232)) = true := by decide
  exact of_decide_eq_true (List.all_eq_true.1 h s hs)
/-- The library's sort of texts of the call's own. -/
theorem sort_own {w : World} {B g cap : Nat} {L : List ByteArray} (ho : w.ownsRow B 9 1 (.slice (some ⟨g, 0, none⟩) L.length cap) L.length (sv L)) (hl : L.length ≤ 1000) : Calls Tryz.prog 21 #[.slice (some ⟨g, 0, none⟩) L.length cap] w fun e w' => e = .returned (.tuple #[]) ∧ w'.ownsRow B 9 1 (.slice (some ⟨g, 0, none⟩) L.length cap) L.length (((L.map bl11).mergeSort fun x y => decide (x ≤ y)).map encStr) ∧ w.grownBy w' (some g) := by
  rcases id ho.2 with ⟨hv, _⟩ | ⟨g', cap', cur, hv, hb, hg, h1, h2, h3, h4⟩
  · cases hv
  injection hv with e1 _ e3
  injection e1 with e1
  injection e1 with e1 _ _
  subst e1
  subst e3
  have hlen : (L.map bl11).length = L.length := List.length_map ..
  have hH : Sort.Holds encStr w g 0 (L.map bl11).toArray := holds_of_block hg (by rw [hlen, ← sv_enc]; rw [Nat.mul_one] at h4; exact h4)
  have h := Any.slices_Sort_string Tryz.laysSrt g 0 cap (L.map bl11) w hH (blk_lt hg) (by rw [hlen]; omega)
  rw [hlen] at h
  refine h.mono ?_
  rintro e w' ⟨rfl, n, os, rfl⟩
  refine ⟨rfl, ?_, grownBy_sorted _⟩
  have := ownsRow_sorted (w := w) (n := n) (os := os) (ss := L.map bl11) (ts := (L.map bl11).mergeSort fun x y => decide (x ≤ y)) (by simp) hb hg (by rw [hlen]; exact h1) h2 h3
  rw [hlen] at this
  exact this
set_option maxRecDepth 1000000 in
set_option maxHeartbeats 2000000 in
theorem tst_names {w : World} {N top g : Nat} {l : List Tp} (h : Tst w N top g l) (hO : Otb w) (h64 : l.length ≤ 64) (hsz : ∀ t ∈ l, t.n.size ≤ 140737488351232) : Calls Tryz.prog 9 #[.pointer (some ⟨g, 0, none⟩)] w fun e w' => ∃ gb c2, e = .returned (.slice (some ⟨gb, 0, none⟩) (nms l).length c2) ∧ Hid (SSl w' (.slice (some ⟨gb, 0, none⟩) (nms l).length c2) (nms l) ∧ Below w.heap.size w w' ∧ w.heap.size ≤ gb ∧ gb < w'.heap.size) := by
  have HT := hide hO.c
  have HI := hide infoOw
  have HA : Hid (∀ w, (isAgg 73).run Tryz.prog w = .ok true w) := aggOw
  have HIT := hide infoTp
  have HAT : Hid (∀ w, (isAgg 29).run Tryz.prog w = .ok true w) := aggTp
  have HSZ := hide hsz
  obtain ⟨d, m, hTb⟩ := h.tbl
  obtain ⟨vt, B, hg, hB, _⟩ := hTb.e
  have HTS := hide hB.t
  obtain ⟨⟨⟨a, cap, rfl, _, hform⟩, _⟩, _⟩ := hB
  have HF := hide hform
  have HG := hide hg
  have HOS := hide owns_sz
  have HOL : Hid ((owns.map (·.1)).length = 9) := rfl
  clear hO hTb hg h hsz hform
  go_enter Tryz.func9, Tryz.ntmps9
  go_wp2_with (refine wpList_aggAt rfl rfl HI.out HA.out 0 0 ocs rfl rfl HT.out ?_)
  clear HT HI HA
  generalize hoc : ocs = OC at *
  have HOE := hide hoc
  clear hoc
  generalize hon : owns.map (·.1) = ON at *
  have HON := hide hon
  clear hon
  go_loopw [3, 9] (fun vo vi wx => ∃ (i : Nat) (a0 : Option Addr) (n0 c0 : Nat), i ≤ 9 ∧ vo = .slice a0 n0 c0 ∧ vi = .int .i64 (i : Nat) ∧ Hid (wx.ownsRow w.heap.size 9 1 (.slice a0 n0 c0) i (sv (ON.take i))) ∧ Hid (Below w.heap.size w wx)) (fun _ vi _ => 9 - (intOf vi).toNat)
  case atStart => exact ⟨0, none, 0, 0, by omega, rfl, rfl, World.ownsRow_nil _ _ _ _, Below.refl _ _⟩
  case round =>
    obtain ⟨i, a0, n0, c0, hi, rfl, rfl, HO, HBw⟩ := hrel
    by_cases hlt : i < 9
    · as_aux_lemma =>
      have g1 : (i : Int) < 9 := by omega
      obtain ⟨⟨n, k⟩, hp⟩ : ∃ p, owns[i]? = some p := ⟨owns[i]'(by have := owns_len; omega), List.getElem?_eq_getElem _⟩
      have hpo : ON[i]? = some n := by rw [← HON.out, List.getElem?_map, hp]; rfl
      have HTK : Hid (ON.take (i + 1) = ON.take i ++ [n]) := by
        obtain ⟨hl, he⟩ := List.getElem?_eq_some_iff.1 hpo
        show _ = _
        rw [List.take_succ_eq_append_getElem hl, he]
      have HNS : Hid (n.size ≤ 140737488351232) := HOS.out n (List.mem_of_getElem? hpo)
      have HEX : Hid (∀ (o : Oper) (a : Act) (x ix : Operand) (w : World), o.op = .index 73 x ix → a.eval x = .agg OC → a.eval ix = .int .i64 (i : Nat) → (execOp a.eval o).run Tryz.prog w = .ok (.value (.agg #[.string n, .int .i64 (k : Nat)])) w) := fun o a x ix w h1 h2 h3 => exec_own hp h1 (h2.trans (by rw [HOE.out])) h3
      have HBS := hide HBw.out.size
      have HOA := hide (HO.out.alloc (.cells #[.string n, .int .i64 (k : Nat)] 72))
      have HBA : Hid (Below w.heap.size w (wr.alloc (.cells #[.string n, .int .i64 (k : Nat)] 72))) := HBw.out.alloc HBS.out _
      have HSL : Hid (SSl ((wr.alloc (.cells #[.string n, .int .i64 (k : Nat)] 72)).alloc (.cells #[.string n] 9)) (.slice (some ⟨wr.heap.size + 1, 0, none⟩) 1 1) [n]) := by
        have h := one_ssl (wr.alloc (.cells #[.string n, .int .i64 (k : Nat)] 72)) n HNS.out
        have e : (wr.alloc (.cells #[.string n, .int .i64 (k : Nat)] 72)).heap.size = wr.heap.size + 1 := by simp
        rw [e] at h
        exact h
      clear hp hpo HO HBw
      go_wp2_with (first
        | (refine wpList_ex rfl (HEX.out _ _ _ _ _ rfl rfl rfl) ?_)
        | (at_builtin; refine append_ssl rfl _ _ rfl w.heap.size _ i (ON.take i) rfl (HOA.out.alloc _) _ [n] rfl HSL.out ?b1 ?b2 ?_))
      case b1 => simp; omega
      case b2 => have := HBA.out.size; simp at this ⊢; omega
      intro v2 w2 hown2 hgr2
      have hbel2 : Below w.heap.size w w2 := (HBA.out.alloc HBA.out.size _).grown hgr2 (by have := HBA.out.size; simp at this ⊢; omega) (fun q hq => (HOA.out.lt q hq).1)
      have HO2 : Hid (w2.ownsRow w.heap.size 9 1 v2 (i + 1) (sv (ON.take (i + 1)))) := by show World.ownsRow _ _ _ _ _ _ _; rw [HTK.out]; exact hown2
      have HB2 := hide hbel2
      clear hgr2 hown2 hbel2 HOA HBA HEX
      obtain ⟨a2, n2, c2, rfl⟩ : ∃ a n c, v2 = .slice a n c := by obtain ⟨a, c, h, _⟩ := own_formG HO2.out; exact ⟨a, _, c, h⟩
      go_wp2_with fail
      go_roundw
      case rel => exact ⟨i + 1, _, _, _, by omega, rfl, by go_num, HO2, HB2⟩
      case measure => simp [intOf]; omega
    · have g1 : ¬ (i : Int) < 9 := by omega
      have hi9 : i = 9 := by omega
      have HO9 : Hid (wr.ownsRow w.heap.size 9 1 (.slice a0 n0 c0) (9 + 0) (sv (ON ++ (l.take 0).map (·.n)))) := by
        have h := HO.out
        rw [hi9, List.take_of_length_le (by rw [HOL.out]; exact Nat.le_refl _)] at h
        show World.ownsRow _ _ _ _ _ _ _
        simpa using h
      have q0 : wr.cell? ⟨g, 0, none⟩ = some (.slice a l.length cap) := keep_below HBw.out _ _ (blk_cell (j := 0) HG.out rfl)
      have HB9 := HBw
      clear HO hi9 HBw HOE HG
      go_wp2_with fail
      clear q0
      go_loopw [3, 24] (fun vo vi wx => ∃ (j : Nat) (a0 : Option Addr) (n0 c0 : Nat), j ≤ l.length ∧ vo = .slice a0 n0 c0 ∧ vi = .int .i64 (j : Nat) ∧ Hid (wx.ownsRow w.heap.size 9 1 (.slice a0 n0 c0) (9 + j) (sv (ON ++ (l.take j).map (·.n)))) ∧ Hid (Below w.heap.size w wx)) (fun _ vi _ => l.length - (intOf vi).toNat)
      case atStart => exact ⟨0, _, _, _, by omega, rfl, rfl, HO9, HB9⟩
      case round =>
        rename World => wz
        obtain ⟨j, a1, n1, c1, hj, rfl, rfl, HO, HBw⟩ := hrel
        clear HO9 HB9
        by_cases hjl : j < l.length
        · as_aux_lemma =>
          have g2 : (j : Int) < (l.length : Int) := by omega
          obtain ⟨t, ht⟩ : ∃ t, l[j]? = some t := ⟨l[j], List.getElem?_eq_getElem hjl⟩
          obtain ⟨b, off, rfl, hcc⟩ := HF.out.resolve_left (fun h => by rw [h] at hjl; simp at hjl)
          obtain ⟨c, hc, hcell⟩ := hcc j t ht
          obtain ⟨⟨vf, vc, vw, rfl, ⟨⟨af, cf, rfl, -, -⟩, -⟩, ⟨⟨ac, cc, rfl, -, -⟩, -⟩, ⟨⟨aw, cw, rfl, -, -⟩, -, -⟩⟩, -⟩ := hc
          unfold tpc at hcell
          have HCL : Hid (∀ i u, (#[.string t.n, .int .i64 t.k, .int .i64 t.lo, .int .i64 t.hi, .string t.r.n, .bool t.r.z, .slice af t.fs.length cf, .slice ac t.cs.length cc, .slice aw t.ws.length cw] : Array Value)[i]? = some u → wz.cell? ⟨b, off + j * 9 + i, none⟩ = some u) := fun i u hi => keep_below HBw.out _ _ (hcell i u hi)
          have HTK : Hid (ON ++ (l.take (j + 1)).map (·.n) = (ON ++ (l.take j).map (·.n)) ++ [t.n]) := by
            show _ = _
            rw [takeP l j t ht, List.map_append, List.append_assoc]
            rfl
          have HNS : Hid (t.n.size ≤ 140737488351232) := HSZ.out t (List.mem_of_getElem? ht)
          have HBS := hide HBw.out.size
          have HOA := hide (HO.out.alloc (.cells #[.string t.n, .int .i64 t.k, .int .i64 t.lo, .int .i64 t.hi, .string t.r.n, .bool t.r.z, .slice af t.fs.length cf, .slice ac t.cs.length cc, .slice aw t.ws.length cw] 29))
          have HBA : Hid (Below w.heap.size w (wz.alloc (.cells #[.string t.n, .int .i64 t.k, .int .i64 t.lo, .int .i64 t.hi, .string t.r.n, .bool t.r.z, .slice af t.fs.length cf, .slice ac t.cs.length cc, .slice aw t.ws.length cw] 29))) := HBw.out.alloc HBS.out _
          have HSL : Hid (SSl ((wz.alloc (.cells #[.string t.n, .int .i64 t.k, .int .i64 t.lo, .int .i64 t.hi, .string t.r.n, .bool t.r.z, .slice af t.fs.length cf, .slice ac t.cs.length cc, .slice aw t.ws.length cw] 29)).alloc (.cells #[.string t.n] 9)) (.slice (some ⟨wz.heap.size + 1, 0, none⟩) 1 1) [t.n]) := by
            have h := one_ssl (wz.alloc (.cells #[.string t.n, .int .i64 t.k, .int .i64 t.lo, .int .i64 t.hi, .string t.r.n, .bool t.r.z, .slice af t.fs.length cf, .slice ac t.cs.length cc, .slice aw t.ws.length cw] 29)) t.n HNS.out
            have e : (wz.alloc (.cells #[.string t.n, .int .i64 t.k, .int .i64 t.lo, .int .i64 t.hi, .string t.r.n, .bool t.r.z, .slice af t.fs.length cf, .slice ac t.cs.length cc, .slice aw t.ws.length cw] 29)).heap.size = wz.heap.size + 1 := by simp
            rw [e] at h
            exact h
          clear hcc hcell ht HO HBw HF HTS
          go_wp2_with (first
            | (refine wpList_aggAt rfl rfl HIT.out HAT.out b (off + j * 9) #[.string t.n, .int .i64 t.k, .int .i64 t.lo, .int .i64 t.hi, .string t.r.n, .bool t.r.z, .slice af t.fs.length cf, .slice ac t.cs.length cc, .slice aw t.ws.length cw] rfl rfl HCL.out ?_)
            | (at_builtin; refine append_ssl rfl _ _ rfl w.heap.size _ (9 + j) (ON ++ (l.take j).map (·.n)) rfl (HOA.out.alloc _) _ [t.n] rfl HSL.out ?b1 ?b2 ?_))
          case b1 => show 9 + j + 1 < _; omega
          case b2 => have := HBA.out.size; simp at this ⊢; omega
          intro v2 w2 hown2 hgr2
          have hbel2 : Below w.heap.size w w2 := (HBA.out.alloc HBA.out.size _).grown hgr2 (by have := HBA.out.size; simp at this ⊢; omega) (fun q hq => (HOA.out.lt q hq).1)
          have HO2 : Hid (w2.ownsRow w.heap.size 9 1 v2 (9 + (j + 1)) (sv (ON ++ (l.take (j + 1)).map (·.n)))) := by show World.ownsRow _ _ _ _ _ _ _; rw [HTK.out]; first | exact hown2 | (simp only [List.map_take, List.append_assoc] at hown2 ⊢; exact hown2)
          have HB2 := hide hbel2
          clear hgr2 hown2 hbel2 HOA HBA HCL
          obtain ⟨a2, n2, c2, rfl⟩ : ∃ a n c, v2 = .slice a n c := by obtain ⟨a, c, h, _⟩ := own_formG HO2.out; exact ⟨a, _, c, h⟩
          go_wp2_with fail
          go_roundw
          case rel => exact ⟨j + 1, _, _, _, by omega, rfl, by go_num, HO2, HB2⟩
          case measure => simp [intOf]; omega
        · as_aux_lemma =>
          have g2 : ¬ (j : Int) < (l.length : Int) := by omega
          have hjl2 : j = l.length := by omega
          obtain ⟨LL, hLL⟩ : ∃ LL, LL = ON ++ l.map (·.n) := ⟨_, rfl⟩
          have hLn : LL.length = 9 + l.length := by rw [hLL, List.length_append, List.length_map, HOL.out]
          have ho : wz.ownsRow w.heap.size 9 1 (.slice a1 n1 c1) LL.length (sv LL) := by
            have h := HO.out
            rw [hjl2, List.take_length, ← hLL, ← hLn] at h
            exact h
          have hse : (LL.map bl11).mergeSort (fun x y => decide (x ≤ y)) = srn l := by
            unfold srn
            rw [hLL, ← HON.out, nml_eq]
          have HNL : Hid (LL.length = (nms l).length) := by show _ = _; rw [hLn, nms_len]; omega
          rcases id ho.2 with ⟨hv, h0⟩ | ⟨gb, cap', cur, hv, hbb, hgg, -⟩
          · omega
          injection hv with e1 e2 e3
          subst e1
          subst e2
          subst e3
          have HSO := hide (sort_own ho (by omega))
          rw [hse, srn_sv, HNL.out] at HSO
          rw [HNL.out] at ho
          have HOW := hide ho
          have HGG2 : Hid (w.heap.size ≤ gb ∧ gb < wz.heap.size) := ⟨hbb, blk_lt hgg⟩
          have HSM : Hid (∀ s ∈ nms l, s.size ≤ 140737488351232) := fun s hs => by
            rcases (nms_mem l s).1 hs with h | ⟨t, ht, rfl⟩
            · exact HOS.out s (by rw [← HON.out]; exact (owns_mem s).2 h)
            · exact HSZ.out t ht
          have HNM : Hid ((nms l).length ≤ 140737488351232) := by show _ ≤ _; rw [nms_len]; omega
          rw [HNL.out]
          clear hse hLL hLn hgg hbb ho HO cur hjl2 HNL HF HTS
          go_wp2_with fail
          refine HSO.out.mono ?_
          rintro e w3 ⟨rfl, ho3, hg3⟩
          have hb3 : Below w.heap.size w w3 := HBw.out.grown hg3 HBw.out.size (fun q hq => by have := HGG2.out; have := Option.some.inj hq; omega)
          have HSS : Hid (SSl w3 (.slice (some ⟨gb, 0, none⟩) (nms l).length c1) (nms l)) := SSl.own ho3 rfl HNM.out HSM.out
          have HB3 := hide hb3
          have HZ3 : Hid (gb < w3.heap.size) := by have h1 := hg3.size; have h2 := HGG2.out; show _ < _; omega
          clear ho3 hg3 hb3 HSO
          go_wp2_with fail
          go_ret
          exact ⟨gb, c1, rfl, HSS.out, HB3.out, HGG2.out.1, HZ3.out⟩
end
section
open Go.RowKit Go
/-! ### What stays while a table is written to -/
/-- A block that holds no text. -/
def Ntx (w : World) (g : Nat) : Prop := ∀ j s, w.cell? ⟨g, j, none⟩ ≠ some (.string s)
theorem Tst.ntx {w : World} {N top g : Nat} {l : List Tp} (h : Tst w N top g l) : Ntx w g := fun j s hj => by
  obtain ⟨wt, vt, B, d, m, _, h2, h3, h4, h5⟩ := h.e
  obtain ⟨⟨a, cap, rfl, _⟩, _⟩ := (h2 w h3).t
  have e : w.cell? ⟨g, j, none⟩ = (#[.slice a l.length cap, .map (some B), .int .u32 d, .int .i32 0, .int .u32 0, m] : Array Value)[j]? := by simp [World.cell?, h4]
  rw [e] at hj
  have hm : ∃ x, m = .map x := by
    rcases h5 with ⟨_, rfl⟩ | ⟨_, M, _, _, rfl, _⟩
    · exact ⟨_, rfl⟩
    · exact ⟨_, rfl⟩
  obtain ⟨x, rfl⟩ := hm
  rcases j with _ | _ | _ | _ | _ | _ | j <;> simp at hj
theorem gsl_ntx {α : Type} {n g : Nat} {P : World → α → Array Value → Prop} {w wy : World} {v : Value} {xs : List α} (h : GSl n P w v xs) (hP : ∀ x c, P w x c → P wy x c) (h0 : ∀ x c, P w x c → ∃ s, c[0]? = some (.string s)) (hk : Kp (fun q => q = g) w wy) (hn : Ntx w g) : GSl n P wy v xs := by
  obtain ⟨⟨a, cap, hv, hc0, hc⟩, h1⟩ := h
  refine ⟨⟨a, cap, hv, hc0, ?_⟩, h1⟩
  rcases hc with hc | ⟨b, off, ha, hc⟩
  · exact .inl hc
  · refine .inr ⟨b, off, ha, fun i x hi => ?_⟩
    obtain ⟨c, h2, h3⟩ := hc i x hi
    obtain ⟨s, hs⟩ := h0 x c h2
    have hb : b ≠ g := fun e => hn _ s (e ▸ h3 0 _ hs)
    exact ⟨c, hP x c h2, fun j u hj => hk.cell (h3 j u hj) hb⟩
theorem ssl_ntx {g : Nat} {w wy : World} {v : Value} {ks : List ByteArray} (h : SSl w v ks) (hk : Kp (fun q => q = g) w wy) (hn : Ntx w g) : SSl wy v ks := by
  obtain ⟨⟨a, cap, hv, hc0, hc⟩, h1, h2⟩ := h
  refine ⟨⟨a, cap, hv, hc0, ?_⟩, h1, h2⟩
  rcases hc with hc | ⟨b, off, ha, hc⟩
  · exact .inl hc
  · exact .inr ⟨b, off, ha, fun j s hj => hk.cell (hc j s hj) (fun e => hn _ s ((show b = g from e) ▸ hc j s hj))⟩
theorem tpi_ntx {g : Nat} {w wy : World} {t : Tp} {c : Array Value} (h : Tpi w t c) (hk : Kp (fun q => q = g) w wy) (hn : Ntx w g) : Tpi wy t c := by
  obtain ⟨⟨vf, vc, vw, e, h1, h2, h3⟩, hb⟩ := h
  exact ⟨⟨vf, vc, vw, e, gsl_ntx h1 (fun _ _ h => h) (fun x c h => ⟨x.n, by rw [h.1]; rfl⟩) hk hn, gsl_ntx h2 (fun _ _ h => h) (fun x c h => ⟨x.k, by rw [h.1]; rfl⟩) hk hn, ssl_ntx h3 hk hn⟩, hb⟩
theorem tsl_ntx {g : Nat} {w wy : World} {v : Value} {l : List Tp} (h : TSl w v l) (hk : Kp (fun q => q = g) w wy) (hn : Ntx w g) : TSl wy v l :=
  gsl_ntx h (fun _ _ h => tpi_ntx h hk hn) (fun t c h => ⟨t.n, by obtain ⟨⟨_, _, _, rfl, _⟩, _⟩ := h; rfl⟩) hk hn
theorem tsl_n {w : World} {v : Value} {l : List Tp} (h : TSl w v l) : ∀ t ∈ l, t.n.size ≤ 140737488351232 := fun t ht => by
  obtain ⟨i, hi, e⟩ := List.getElem_of_mem ht
  rcases h.form with ⟨_, _, _, _, h | ⟨b, off, _, h⟩⟩
  · rw [h] at ht; cases ht
  · obtain ⟨_, h3, _⟩ := h i t (by rw [List.getElem?_eq_getElem hi, e])
    exact h3.b.n
theorem ssl_blk {w wy : World} {gb n c : Nat} {ns : List ByteArray} {S : Nat → Prop} (h : SSl w (.slice (some ⟨gb, 0, none⟩) n c) ns) (hk : Kp S w wy) (hS : ¬ S gb) : SSl wy (.slice (some ⟨gb, 0, none⟩) n c) ns :=
  SSl.kps h hk (fun q e => by rw [← Option.some.inj e]; exact hS)
theorem ssl_cell {w : World} {gb c : Nat} {ns : List ByteArray} (h : SSl w (.slice (some ⟨gb, 0, none⟩) ns.length c) ns) {j : Nat} {s : ByteArray} (hj : ns[j]? = some s) : w.cell? ⟨gb, j, none⟩ = some (.string s) := by
  obtain ⟨⟨a, cap, e, _, hc⟩, _, _⟩ := h
  injection e with e1 _ _
  rcases hc with hc | ⟨b, off, ha, hc⟩
  · rw [hc] at hj; simp at hj
  · have e2 := Option.some.inj (e1.trans ha)
    injection e2 with e3 e4 _
    subst e3
    subst e4
    have := hc j s hj
    rw [Nat.zero_add] at this
    exact this
theorem wid_more {l : List Tp} {M : Tp} (h : Shrt l) (hf : M.fs.length ≤ 2199023255552) (hc : M.cs.length ≤ 4398046511104) : Wid (l ++ [M]) := fun t ht hd => by
  rcases List.mem_append.1 ht with ht | ht
  · exact shrt_wid h t ht hd
  · rw [List.mem_singleton.1 ht] at hd ⊢
    unfold tdy at hd
    simp only [Bool.and_eq_true, Bool.or_eq_true, decide_eq_true_eq, List.isEmpty_iff] at hd
    obtain ⟨⟨⟨_, hfs⟩, hcs⟩, _⟩ := hd
    rcases hfs with e | e
    · rcases hcs with e2 | e2
      · omega
      · rw [e2, List.length_nil]; omega
    · rw [e, List.length_nil]; omega
theorem alk_hq {l U : List Tp} (h : Alk l U) (s : ByteArray) : fnd l s = fnd U s ∧ fnd l (flo l s).1 = fnd U (flo U s).1 ∧ ∀ F1 F2, Fls l F1 → Fls U F2 → memb F1 s = memb F2 s :=
  ⟨h.fnd s, by rw [← h.flo s, h.fnd], fun F1 F2 f1 f2 => by rw [Bool.eq_iff_iff, memb_iff, memb_iff]; exact h.fls f1 f2 s⟩
theorem ext_hq {l : List Tp} {M : Tp} (o : Okl l) (e : Okl (l ++ [M])) {s : ByteArray} (hs : (fnd l s).2 = true) : fnd l s = fnd (l ++ [M]) s ∧ fnd l (flo l s).1 = fnd (l ++ [M]) (flo (l ++ [M]) s).1 ∧ ∀ F1 F2, Fls l F1 → Fls (l ++ [M]) F2 → memb F1 s = memb F2 s :=
  ⟨(fnd_more (known_ne e.gdl hs)).symm, by rw [flo_ext o e hs]; exact (fnd_more (known_ne e.gdl (base_known o hs).1)).symm, fun F1 F2 f1 f2 => by rw [Bool.eq_iff_iff, memb_iff, memb_iff]; exact fls_ext o e f1 f2 hs⟩
theorem alk_shrt {l U : List Tp} (h : Alk l U) (hS : Shrt l) : Shrt U := fun t ht => hS t ((h.mem t).2 ht)
theorem rise_no {s s' : ByteArray} (h : bl11 s < bl11 s') : Op.bytesLess s'.toList s.toList = false ∧ (s'.toList == s.toList) = false := by
  unfold bl11 at h
  rw [ByteArray.toList_eq, ByteArray.toList_eq]
  constructor
  · rw [bytesLess_eq]
    exact decide_eq_false (List.lt_asymm h)
  · exact beq_eq_false_iff_ne.2 (fun e => List.lt_irrefl _ (e ▸ h))
/-- A slice of one struct, in a region that draws. -/
theorem step_row1 {ops : Array Oper} {o : Oper} {a : Act} {w : World} {K : Act → World → Prop} {Q : Exit → Act → World → Prop} {E : Prop} {S T : TypeId} {z : Value} {k by' : Nat} (hI : (Tryz.prog.info? T).map (fun i => (i.zero, i.size, i.bytes)) = some (some z, k, by')) (hS : Tryz.prog.underlying S = some (.slice T)) (hk : 0 < k) (hk2 : k ≤ 100) (hg : o.guard = none) {x : Operand} (ho : o.op = .buildSlice S 1 #[(0, x)]) {c : Array Value} (hx : a.eval x = .agg c) (hc : c.size = k)
    (h : K (a.put o.dst (.slice (some ⟨w.heap.size, 0, none⟩) 1 1)) (w.alloc (.cells c T))) : if Region.wanted o (yielded ops a.tmps) = true then Oper.wp Tryz.prog o a w K Q else E := by
  have hw : Region.wanted o (yielded ops a.tmps) = true := by simp [Region.wanted, hg]
  rw [if_pos hw]
  obtain ⟨i, hi, hz, hs, _⟩ := info_ex hI
  refine wp_buildSlice S T 1 _ ho c i _ hS hi hz (by rw [hs]; omega) (by rw [hs]; omega) ?_ h
  rw [hs]
  have e : (Array.map (fun (i, x) => (i, a.eval x)) #[((0 : Nat), x)]).toList = (([.agg c] : List Value).zipIdx 0).map fun x => (x.2, x.1) := by
    simp [hx]
  rw [e]
  generalize hX : (Array.range (1 * k)).map (z.cells[· % z.cells.size]!) = X
  have hXs : X.size = k := by rw [← hX]; simp
  obtain ⟨r, hr, hsz, hk3⟩ := Great.fill_dense (s := k) hk [.agg c] 0 X (by
    intro v hv
    rw [List.mem_singleton.1 hv]
    exact hc) (by rw [hXs]; simp)
  have e2 : r = c := by
    apply Array.ext_getElem?
    intro j
    rw [hk3 j]
    by_cases hj : j < k
    · rw [if_pos ⟨by omega, by simpa using hj⟩, Nat.div_eq_of_lt hj, Nat.mod_eq_of_lt hj]
      rfl
    · rw [if_neg (by simp; omega), Array.getElem?_eq_none (by omega), Array.getElem?_eq_none (by omega)]
  rw [hr, e2]
/-- A row of the call's own and one type more, which lies apart. -/
theorem opw_one {w w1 w2 : World} {v v' : Value} {L : List (Array Value)} {l : List Tp} {M : Tp} {c : Array Value} (h : Opw w v L l w1) (hg : w1.grownBy w2 v.ownBlock) (ho : w2.ownsRow w.heap.size 29 9 v' (L.length + [c].length) (gfl (L ++ [c]))) (hT : Tpi w2 M c) (hm : (l ++ [M]).length ≤ 140737488351232) : TSl w2 v' (l ++ [M]) ∧ Below w.heap.size w w2 := by
  have hb : Below w.heap.size w w2 := h.b.trans ((kp_grown hg).below h.b.size (fun q e => (h.o.lt q e).1))
  refine ⟨own_gsl (L := L ++ [c]) (by rw [List.length_append]; exact ho) (fun d hd => ?_) (by rw [List.length_append, List.length_append, h.n]; rfl) hm (fun i t d e1 e2 => ?_), hb⟩
  · rcases List.mem_append.1 hd with hd | hd
    · exact h.z d hd
    · rw [List.mem_singleton.1 hd]; exact hT.size9
  · by_cases hi : i < l.length
    · rw [List.getElem?_append_left hi] at e1
      rw [List.getElem?_append_left (by rw [h.n]; exact hi)] at e2
      exact h.k i t d e1 e2 w2 ((kp_grown hg).mono (fun q _ e => .inr e))
    · have e : i = l.length := by
        have := (List.getElem?_eq_some_iff.1 e1).1
        rw [List.length_append, List.length_singleton] at this
        omega
      subst e
      rw [List.getElem?_append_right (Nat.le_refl _), Nat.sub_self] at e1
      rw [← h.n, List.getElem?_append_right (Nat.le_refl _), Nat.sub_self] at e2
      have e3 : M = t := by simpa using e1
      have e4 : c = d := by simpa using e2
      subst e3
      subst e4
      exact hT
end
section
open Go.RowKit Go
/-! ### SchemaEnds: its lists -/
end
section
open Go.RowKit Go
/-! ### A region that draws its order, with a condition on the world that holds till a certain operation comes up -/
section
variable {P : Program} {ops : Array Oper} {Q : Exit → Act → World → Prop} {md : Region.Mode} {k : Nat} {B : World → Prop}
end
section
variable {P : Program} {Q : Exit → Act → World → Prop} {k : Nat} {B : World → Prop} {l : List Oper} {fuel : Nat} {listed : Array Bool} {a : Act} {w : World}
end
end
section
open Go.RowKit Go
/-! ### SchemaEnds: five rows that grow side by side -/
end
section
open Go.RowKit Go
theorem ssl_gsl {w : World} {v : Value} {ks : List ByteArray} (h : GSl 1 (fun _ (s : ByteArray) c => c = #[.string s]) w v ks) (hs : ∀ s ∈ ks, s.size ≤ 140737488351232) : SSl w v ks := by
  obtain ⟨⟨a, cap, e, hn, hc⟩, hm⟩ := h
  refine ⟨⟨a, cap, e, hn, ?_⟩, hm, hs⟩
  rcases hc with hc | ⟨b, off, ha, hc⟩
  · exact .inl hc
  · refine .inr ⟨b, off, ha, fun j s hj => ?_⟩
    obtain ⟨c, rfl, h3⟩ := hc j s hj
    have := h3 0 _ rfl
    rw [Nat.mul_one, Nat.add_zero] at this
    exact this
end
section
open Go.RowKit Go
/-! ### SchemaFilled: what it has in hand -/
def gst (L : List ByteArray) : List Value := gfl (L.map fun s => #[Value.string s])
/-- A row of names that the call makes. -/
structure Srw (A N7 : Nat) (v : Value) (L : List ByteArray) (wx : World) : Prop where
  o : wx.ownsRow A 9 1 v L.length (gst L)
  p : ∀ q, v.ownBlock = some q → q = A ∨ N7 ≤ q
  s : ∀ x ∈ L, x.size ≤ 140737488351232
theorem Srw.next {A N7 : Nat} {v : Value} {L : List ByteArray} {wx wy : World} (h : Srw A N7 v L wx) (hb : Below wx.heap.size wx wy) : Srw A N7 v L wy := ⟨(Kp.of_below (S := fun _ => False) hb).owns h.o (fun _ _ e => e), h.p, h.s⟩
theorem Srw.ssl {A N7 : Nat} {v : Value} {L : List ByteArray} {wx : World} (h : Srw A N7 v L wx) (hm : L.length ≤ 140737488351232) : SSl wx v L := by
  refine ssl_gsl (own_gsl (L := L.map fun s => #[Value.string s]) (by rw [List.length_map]; exact h.o) (fun c hc => ?_) (by rw [List.length_map]) hm (fun i x c hx hc => ?_)) h.s
  · obtain ⟨s, _, rfl⟩ := List.mem_map.1 hc
    rfl
  · rw [List.getElem?_map, hx] at hc
    exact (Option.some.inj hc).symm
theorem Srw.nil (A N7 : Nat) (wx : World) : Srw A N7 (.slice none 0 0) [] wx := ⟨World.ownsRow_nil _ _ _ _, fun _ e => (by cases e), fun _ h => (by cases h)⟩
/-- append of one name. -/
theorem Srw.law {A N7 g : Nat} {a0 : Option Addr} {n0 c0 : Nat} {L : List ByteArray} {wx : World} {x : ByteArray} (h : Srw A N7 (.slice a0 n0 c0) L wx) (hx : x.size ≤ 140737488351232) (hlen : L.length ≤ 1000000) (hA : A ≤ wx.heap.size) (h7 : N7 ≤ wx.heap.size) (hg : wx.heap[g]? = some (.cells #[.string x] 9 (0, 0))) {ops : Array Oper} {rest : List Oper} {o : Oper} {ac : Act} {Q : Exit → Act → World → Prop} {s y : Operand} (h1 : o.guard = none) (h2 : o.op = .call { callee := .builtin .append, args := #[s, y], argTypes := #[27, 27] }) (h3 : ac.eval s = .slice a0 n0 c0) (h4 : ac.eval y = .slice (some ⟨g, 0, none⟩) 1 1)
    (h5 : ∀ a9 n9 c9 w', Hid (Srw A N7 (.slice a9 n9 c9) (L ++ [x]) w' ∧ wx.grownBy w' (Value.slice a0 n0 c0).ownBlock ∧ ((Value.slice a9 n9 c9).ownBlock = (Value.slice a0 n0 c0).ownBlock ∨ (Value.slice a9 n9 c9).ownBlock = some wx.heap.size)) → wpList Tryz.prog ops Q rest (ac.put o.dst (.slice a9 n9 c9)) w') : wpList Tryz.prog ops Q (o :: rest) ac wx := by
  have ho : wx.ownsRow A 9 1 (.slice a0 n0 c0) (L.map fun s => #[Value.string s]).length (gfl (L.map fun s => #[Value.string s])) := by rw [List.length_map]; exact h.o
  refine append_g infoS3 Tryz.underlying27 rfl (by decide) (by decide) h1 h2 h3 ho h4 hg rfl (fun u hu => by simp at hu; rw [hu]; rfl) (by rw [List.length_map]; exact hlen) hA (fun v' w' h6 h7' h8 => ?_)
  rw [List.length_map] at h6
  obtain ⟨a9, c9, hv9, _⟩ := own_formG h6
  subst hv9
  refine h5 _ _ _ w' ⟨⟨?_, fun q e => ?_, fun z hz => ?_⟩, h7', h8⟩
  · have e : gst (L ++ [x]) = gfl ((L.map fun s => #[Value.string s]) ++ [#[Value.string x]]) := by unfold gst; rw [List.map_append]; rfl
    rw [e, List.length_append]
    exact h6
  · rcases h8 with h8 | h8
    · rw [h8] at e
      exact h.p q e
    · rw [h8] at e
      exact .inr (by rw [← Option.some.inj e]; exact h7)
  · rcases List.mem_append.1 hz with hz | hz
    · exact h.s z hz
    · rw [List.mem_singleton.1 hz]; exact hx
theorem tsl_at {w : World} {a : Option Addr} {k : Nat} {l : List Tp} (h : TSl w (.slice a l.length k) l) {i : Nat} {t : Tp} (ht : l[i]? = some t) : ∃ b off c, a = some ⟨b, off, none⟩ ∧ Tpi w t c ∧ (∀ j u, c[j]? = some u → w.cell? ⟨b, off + i * 9 + j, none⟩ = some u) ∧ w.cell? ⟨b, off + i * 9, none⟩ = some (.string t.n) ∧ t.n.size ≤ 140737488351232 := by
  obtain ⟨a', k', e, _, hc⟩ := h.form
  injection e with e1 _ _
  subst e1
  rcases hc with hc | ⟨b, off, ha, hc⟩
  · rw [hc] at ht
    cases ht
  · obtain ⟨c, h1, h2⟩ := hc i t ht
    have h3 : c[0]? = some (.string t.n) := by
      obtain ⟨⟨_, _, _, rfl, _⟩, _⟩ := h1
      rfl
    exact ⟨b, off, c, ha, h1, h2, h2 0 _ h3, h1.b.n⟩
end
end Go.Proofs.YtagkogpjckjobaaGreatDoor
