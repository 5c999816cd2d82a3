import Derived.Test.YtbbalhfjgpaabaaGreatDoorJd
import Derived.Test.YtbbalhfjgpaabaaGreatDoorJb
import Derived.Test.YtbbalhfjgpaabaaGreatDoorJa
import Derived.Test.YtbbalhfjgpaabaaGreatDoorJc
import Derived.Laws.AppendOwnNone
namespace Go.Proofs.YtbbalhfjgpaabaaGreatDoor
section
open Go.RowKit Go
set_option maxRecDepth 1000000 in
set_option maxHeartbeats 1000000 in
theorem overTexts_any {w : World} {base g cap m n : Nat} {xs : List Value} (h : w.ownsRow base 9 1 (.slice (some ⟨g, 0, none⟩) m cap) m xs) (hn : n ≤ m) (hm : m ≤ 1000000) :
    Calls Tryz.prog 53 #[.slice (some ⟨g, 0, none⟩) n cap] w fun e w' => e = .returned (.tuple #[]) ∧ Kp (fun k => k = g) w w' := by
  have HH := hide h
  have HN := hide hn
  clear h
  go_enter Tryz.func53, Tryz.ntmps53
  go_wp2_with fail
  go_loopw [2] (fun i wr => ∃ k : Nat, k ≤ n ∧ i = .int .i64 k ∧ Hid (∃ ys, wr.ownsRow base 9 1 (.slice (some ⟨g, 0, none⟩) m cap) m ys ∧ Kp (fun q => q = g) w wr)) (fun i _ => n - (intOf i).toNat)
  case atStart => exact ⟨0, Nat.zero_le _, rfl, xs, HH.out, Kp.refl _ _⟩
  case round =>
    rename World => wr
    obtain ⟨k, hk, rfl, HR⟩ := hrel
    obtain ⟨ys, hown, hkp⟩ := HR.out
    have HO := hide hown
    have HK := hide hkp
    have hyl : ys.length = m := by have := hown.1; omega
    clear hown hkp HR
    by_cases hlt : k < n
    · have hlt' : (k : Int) < (n : Int) := by omega
      obtain ⟨y, hy⟩ : ∃ y, ys[k]? = some y := ⟨_, List.getElem?_eq_getElem (show k < ys.length by have := HN.out; omega)⟩
      obtain ⟨cg, fg⟩ := own_cell HO.out hy
      have HR2 : Hid (∃ zs, (wr.setCell ⟨g, k, none⟩ (.string ⟨#[111, 118, 101, 114]⟩)).ownsRow base 9 1 (.slice (some ⟨g, 0, none⟩) m cap) m zs ∧ Kp (fun q => q = g) w (wr.setCell ⟨g, k, none⟩ (.string ⟨#[111, 118, 101, 114]⟩))) := ⟨_, own_set _ HO.out, HK.out.setCell _ _ (fun _ => rfl)⟩
      clear hyl hy
      go_wp2_with fail
      go_roundw
      case rel => exact ⟨k + 1, by omega, by go_num, HR2⟩
      case measure => simp [intOf]; omega
    · have hlt' : ¬ (k : Int) < (n : Int) := by omega
      go_wp2_with fail
      go_end0
      exact ⟨rfl, HK.out⟩
end
section
open Go.RowKit Go
theorem gfl_cells2 {w : World} {k b off : Nat} (hk : 0 < k) {L : List (Array Value)} (hl : ∀ c ∈ L, c.size = k) (h : ∀ (i : Nat) (c : Array Value), L[i]? = some c → ∀ j u, c[j]? = some u → w.cell? ⟨b, off + i * k + j, none⟩ = some u) : ∀ (j : Nat) (u : Value), (gfl L)[j]? = some u → w.cell? ⟨b, off + j, none⟩ = some u := fun j u hu => by
  have hj := (List.getElem?_eq_some_iff.1 hu).1
  rw [gfl_len hl] at hj
  have hi : j / k < L.length := (Nat.div_lt_iff_lt_mul hk).2 hj
  have hL : L[j / k]? = some L[j / k] := List.getElem?_eq_getElem hi
  have hs := hl _ (List.getElem_mem hi)
  have hr : j % k < (L[j / k]).size := by rw [hs]; exact Nat.mod_lt _ hk
  have hc : (L[j / k])[j % k]? = some (L[j / k])[j % k] := Array.getElem?_eq_getElem hr
  have hg := gfl_get hl _ _ _ _ hL hc
  have e : j / k * k + j % k = j := by rw [Nat.mul_comm]; exact Nat.div_add_mod j k
  rw [e, hu] at hg
  have h2 := h _ _ hL _ _ hc
  rw [Nat.add_assoc, e] at h2
  rw [Option.some.inj hg]
  exact h2
theorem append_gs {ops : Array Oper} {rest : List Oper} {o : Oper} {a : Act} {Q : Exit → Act → World → Prop} {w : World} {S T : TypeId} {z : Value} {k by' : Nat} (hI : (Tryz.prog.info? T).map (fun i => (i.zero, i.size, i.bytes)) = some (some z, k, by')) (hS : Tryz.prog.underlying S = some (.slice T)) (hzs : z.cells.size = k) (hk : 0 < k) (hby : by' ≤ 1000) (hgd : o.guard = none) {s x : Operand}
    (ho : o.op = .call { callee := .builtin .append, args := #[s, x], argTypes := #[S, S] }) {B : Nat} {v : Value} {L M : List (Array Value)} {ad : Option Addr} {c : Nat} (hs : a.eval s = v) (hown : w.ownsRow B T k v L.length (gfl L)) (hx : a.eval x = .slice ad M.length c) (hl : ∀ c ∈ M, c.size = k) (h1 : ∀ u ∈ gfl M, u.oneCell' = true) (hlen : L.length + M.length ≤ 1000000) (hc0 : ad = none → c = 0)
    (hc : M = [] ∨ ∃ b off, ad = some ⟨b, off, none⟩ ∧ ∀ (i : Nat) (d : Array Value), M[i]? = some d → ∀ j u, d[j]? = some u → w.cell? ⟨b, off + i * k + j, none⟩ = some u) (hbase : B ≤ w.heap.size)
    (h : ∀ v' w', w'.ownsRow B T k v' (L.length + M.length) (gfl (L ++ M)) → w.grownBy w' v.ownBlock → wpList Tryz.prog ops Q rest (a.put o.dst v') w') : wpList Tryz.prog ops Q (o :: rest) a w := by
  obtain ⟨i, hi, hz0, hz1, hz2⟩ := info_ex hI
  have hb : (L.length + M.length) * by' ≤ 140737488355328 := by
    have : (L.length + M.length) * by' ≤ 1000000 * 1000 := Nat.mul_le_mul (by omega) hby
    omega
  cases ad with
  | none =>
    have h0 : M = [] := hc.resolve_right (fun ⟨_, _, e, _⟩ => by cases e)
    subst h0
    have e0 := hc0 rfl
    subst e0
    refine wpList_append_own_none hgd s x S ho B T i k hS hi v L.length (gfl L) hs hown hx (h v w ?_ ⟨rfl, rfl, rfl, Nat.le_refl _, fun _ _ _ => rfl⟩)
    simpa using hown
  | some ad =>
    have hnews : ∀ j u, (gfl M)[j]? = some u → w.cell? (ad.add j) = some u := fun j u hu => by
      rcases hc with e | ⟨b, off, e, hc⟩
      · rw [e] at hu; cases hu
      · have e' := Option.some.inj e
        subst e'
        rw [addrO]
        exact gfl_cells2 hk hl hc j u hu
    exact wpList_append_own_at w hgd s x S ho B T i z k by' hS hi hz0 hz1 hz2 hzs hk v L.length (gfl L) hs hown ad M.length c (gfl M) hx (gfl_len hl) hnews h1 (by unfold maxLen; omega) hb hbase fun v' w' h2 h3 _ _ => h v' w' (by rw [gfl_app]; exact h2) h3
structure Lgs (T k : Nat) (mk : Array Value) (w : World) (base : Nat) (v : Value) (L : List (Array Value)) : Prop where
  own : ∃ g cap, v = .slice (some ⟨g, 0, none⟩) L.length cap ∧ w.ownsRow base T k (.slice (some ⟨g, 0, none⟩) (L.length + 9) cap) (L.length + 9) (gfl (L ++ List.replicate 9 mk))
  siz : ∀ c ∈ L, c.size = k
  mks : mk.size = k
theorem Lgs.next {T k : Nat} {mk : Array Value} {w w' : World} {base : Nat} {v : Value} {L : List (Array Value)} (h : Lgs T k mk w base v L) (hb : Below w.heap.size w w') : Lgs T k mk w' base v L := by
  obtain ⟨⟨g, cap, hv, ho⟩, h1, h2⟩ := h
  exact ⟨⟨g, cap, hv, (Kp.of_below (S := fun _ => False) hb).owns ho (fun _ _ hf => hf)⟩, h1, h2⟩
theorem Lgs.all {T k : Nat} {mk : Array Value} {w : World} {base : Nat} {v : Value} {L : List (Array Value)} (h : Lgs T k mk w base v L) : ∀ c ∈ L ++ List.replicate 9 mk, c.size = k := fun c hc => by
  rcases List.mem_append.1 hc with hc | hc
  · exact h.siz c hc
  · rw [List.eq_of_mem_replicate hc]
    exact h.mks
theorem gfl_set {k : Nat} : ∀ {L : List (Array Value)}, (∀ c ∈ L, c.size = k) → ∀ (j : Nat) (c' : Array Value), j < L.length → c'.size = k → ∀ (X : List Value), (splice (gfl L ++ X) (j * k) c'.toList).take (L.length * k) = gfl (L.set j c')
  | [], _, j, _, h, _, _ => by simp at h
  | c :: r, hL, 0, c', _, hc, X => by
    have h1 : c.size = k := hL c (List.mem_cons_self ..)
    have e1 : gfl (c :: r) = c.toList ++ gfl r := by simp [gfl]
    have e2 : gfl ((c :: r).set 0 c') = c'.toList ++ gfl r := by simp [gfl]
    have h2 := gfl_len (l := r) (fun d hd => hL d (List.mem_cons_of_mem _ hd))
    rw [e1, e2]
    unfold splice
    have l1 : c.toList.length = k := by simpa using h1
    have l2 : c'.toList.length = k := by simpa using hc
    rw [Nat.zero_mul, List.take_zero, List.nil_append, Nat.zero_add, l2, List.append_assoc, List.drop_append_of_le_length (by omega), List.drop_of_length_le (by omega), List.nil_append, List.length_cons, List.take_append, l2, Nat.succ_mul, List.take_of_length_le (by omega)]
    congr 1
    rw [show r.length * k + k - k = (gfl r).length by omega, List.take_append_of_le_length (by omega), List.take_length]
  | c :: r, hL, j + 1, c', hj, hc, X => by
    have h1 : c.size = k := hL c (List.mem_cons_self ..)
    have ih := gfl_set (L := r) (fun d hd => hL d (List.mem_cons_of_mem _ hd)) j c' (by simpa using hj) hc X
    have e1 : gfl (c :: r) = c.toList ++ gfl r := by simp [gfl]
    have e2 : gfl ((c :: r).set (j + 1) c') = c.toList ++ gfl (r.set j c') := by simp [gfl]
    have l1 : c.toList.length = k := by simpa using h1
    have hsp : splice (c.toList ++ (gfl r ++ X)) ((j + 1) * k) c'.toList = c.toList ++ splice (gfl r ++ X) (j * k) c'.toList := by
      have hk : (j + 1) * k = c.toList.length + j * k := by rw [Nat.succ_mul]; omega
      unfold splice
      rw [hk, List.take_length_add_append, Nat.add_assoc, List.drop_length_add_append, List.append_assoc]
    rw [e1, e2, ← ih, List.append_assoc, hsp]
    have hk2 : (c :: r).length * k = c.toList.length + r.length * k := by rw [List.length_cons, Nat.succ_mul]; omega
    rw [hk2, List.take_length_add_append]
theorem own_partG {w w' : World} {B T k g n cap : Nat} {L : List (Array Value)} {cur : Array Value} {j : Nat} {c' : Array Value} (h : w.ownsRow B T k (.slice (some ⟨g, 0, none⟩) n cap) n (gfl L)) (hL : L.length = n) (hsz : ∀ c ∈ L, c.size = k) (hg : w.heap[g]? = some (.cells cur T (0, 0))) (hj : j < n) (hc : c'.size = k)
    (hw : w'.heap[g]? = some (.cells (splice cur.toList (j * k) c'.toList).toArray T (0, 0))) : w'.ownsRow B T k (.slice (some ⟨g, 0, none⟩) n cap) n (gfl (L.set j c')) := by
  rcases h.2 with ⟨hv, _⟩ | ⟨g', cap', cur', hv, hb, hg', h1, h2, h3, h4⟩
  · cases hv
  injection hv with e1 e2 e3
  injection e1 with e1
  injection e1 with e1 _ _
  subst e1
  subst e3
  rw [hg'] at hg
  injection hg with hg
  injection hg with hg _ _
  subst hg
  have hlk := gfl_len hsz
  have hlc : cur'.toList.length = cap * k := by simpa using h3
  have hcl : c'.toList.length = k := by simpa using hc
  have hs2 : ∀ c ∈ L.set j c', c.size = k := fun d hd => by
    rcases List.mem_or_eq_of_mem_set hd with e | e
    · exact hsz d e
    · rw [e]; exact hc
  have hjk : j * k + k ≤ cap * k := by
    rw [← Nat.succ_mul]
    exact Nat.mul_le_mul_right k (by omega)
  refine ⟨by rw [gfl_len hs2, List.length_set, hL], .inr ⟨g, cap, _, rfl, hb, hw, h1, h2, ?_, ?_⟩⟩
  · rw [List.size_toArray, length_splice _ _ _ (by omega), hlc]
  · have e : cur'.toList = gfl L ++ cur'.toList.drop (n * k) := by
      conv => lhs; rw [← List.take_append_drop (n * k) cur'.toList, h4]
    rw [e, List.toList_toArray]
    have := gfl_set hsz j c' (by omega) hc (cur'.toList.drop (n * k))
    rw [hL] at this
    exact this
theorem own_cur {w : World} {B T k g n cap : Nat} {xs : List Value} (h : w.ownsRow B T k (.slice (some ⟨g, 0, none⟩) n cap) n xs) : ∃ cur, w.heap[g]? = some (.cells cur T (0, 0)) ∧ n * k ≤ cur.size := by
  rcases h.2 with ⟨e, _⟩ | ⟨g', cap', cur, e, _, h1, h2, _, h3, _⟩
  · cases e
  · injection e with e1 e2 e3
    injection e1 with e1
    injection e1 with e1 _ _
    subst e1
    exact ⟨cur, h1, by rw [h3]; exact Nat.mul_le_mul_right k h2⟩
theorem gsl_row {α : Type} {n : Nat} {P : World → α → Array Value → Prop} {f : α → Array Value} (hP : ∀ w x c, P w x c → c = f x) {w : World} {v : Value} {xs : List α} (h : GSl n P w v xs) : ∃ a cap, v = .slice a (xs.map f).length cap ∧ (a = none → cap = 0) ∧ ((xs.map f) = [] ∨ ∃ b off, a = some ⟨b, off, none⟩ ∧ ∀ (i : Nat) (d : Array Value), (xs.map f)[i]? = some d → ∀ j u, d[j]? = some u → w.cell? ⟨b, off + i * n + j, none⟩ = some u) := by
  obtain ⟨⟨a, cap, hv, hcap, hform⟩, _⟩ := h
  refine ⟨a, cap, by rw [List.length_map]; exact hv, hcap.2, ?_⟩
  rcases hform with h | ⟨b, off, e, h⟩
  · exact .inl (by rw [h]; rfl)
  · refine .inr ⟨b, off, e, fun i d hd j u hu => ?_⟩
    rw [List.getElem?_map] at hd
    cases hx : xs[i]? with
    | none => rw [hx] at hd; cases hd
    | some x =>
      rw [hx] at hd
      injection hd with hd
      subst hd
      obtain ⟨c, hcx, hcell⟩ := h i x hx
      rw [hP _ _ _ hcx] at hcell
      exact hcell j u hu
end
section
open Go.RowKit Go
theorem infoF4 : (Tryz.prog.info? 104).map (fun i => (i.zero, i.size, i.bytes)) = some (some (.agg #[.string ⟨#[]⟩, .string ⟨#[]⟩, .string ⟨#[]⟩, .bool false, .bool false]), 5, 64) := by kernel_rfl
def mkF : Array Value := #[.string ⟨#[109, 97, 114, 107]⟩, .string ⟨#[]⟩, .string ⟨#[]⟩, .bool false, .bool false]
theorem mkF_one : ∀ u ∈ mkF.toList, u.oneCell' = true := fun u hu => by
  simp only [mkF, List.mem_cons, List.not_mem_nil, or_false] at hu
  rcases hu with rfl | rfl | rfl | rfl | rfl <;> rfl
theorem fdc_one (x : Fd) : ∀ u ∈ (fdc x).toList, u.oneCell' = true := fun u hu => by
  simp only [fdc, List.mem_cons, List.not_mem_nil, or_false] at hu
  rcases hu with rfl | rfl | rfl | rfl | rfl <;> rfl
set_option maxRecDepth 1000000 in
set_option maxHeartbeats 1000000 in
theorem lendF_row (w : World) (a : Option Addr) (cap : Nat) (L : List (Array Value)) (hl : ∀ c ∈ L, c.size = 5) (h1 : ∀ u ∈ gfl L, u.oneCell' = true) (hlen : L.length ≤ 1000) (hc0 : a = none → cap = 0) (hc : L = [] ∨ ∃ b off, a = some ⟨b, off, none⟩ ∧ ∀ (i : Nat) (d : Array Value), L[i]? = some d → ∀ j u, d[j]? = some u → w.cell? ⟨b, off + i * 5 + j, none⟩ = some u) :
    Calls Tryz.prog 45 #[.slice a L.length cap] w fun e w' => ∃ v', e = .returned v' ∧ Lgs 104 5 mkF w' w.heap.size v' L ∧ Below w.heap.size w w' := by
  obtain ⟨i9, hi, hz0, hz1, hz2⟩ := info_ex infoF4
  have HL := hide hl
  have H1 := hide h1
  have HC0 := hide hc0
  obtain ⟨w0, hmk, hown0, hgr0⟩ := run_make_own (P := Tryz.prog) w w.heap.size 66 104 i9 (.agg #[.string ⟨#[]⟩, .string ⟨#[]⟩, .string ⟨#[]⟩, .bool false, .bool false]) 5 Tryz.underlying66 hi hz0 hz1 .i64 .i64 (L.length + 9) (by rw [hz2]; omega) (by unfold maxLen; omega) (Nat.le_refl _)
  have ec : ((L.length + 9 : Nat) : Int) = (L.length : Int) + 9 := by omega
  rw [ec] at hmk
  clear ec hi hz0 hz1 hz2
  have hbel0 : Below w.heap.size w w0 := (Below.refl _ _).grown hgr0 (Nat.le_refl _) (fun _ h => by cases h)
  have HC : Hid (L = [] ∨ ∃ b off, a = some ⟨b, off, none⟩ ∧ ∀ (i : Nat) (d : Array Value), L[i]? = some d → ∀ j u, d[j]? = some u → w0.cell? ⟨b, off + i * 5 + j, none⟩ = some u) := by
    rcases hc with h | ⟨b, off, e, h⟩
    · exact .inl h
    · exact .inr ⟨b, off, e, fun i d hd j u hu => keep_below hbel0 _ _ (h i d hd j u hu)⟩
  generalize hB : w.heap.size = B at *
  have HBe := hide hB
  clear hB hgr0 hc hl h1 hc0
  have HO0 : Hid (w0.ownsRow B 104 5 _ ([] : List (Array Value)).length (gfl [])) := hown0
  clear hown0
  have HBL0 := hide hbel0
  clear hbel0
  go_enter Tryz.func45, Tryz.ntmps45
  go_wp2_with (at_builtin; refine append_gs infoF4 Tryz.underlying66 rfl (by decide) (by decide) rfl rfl (L := []) (M := L) rfl HO0.out rfl HL.out H1.out ?b1 HC0.out HC.out ?b2 ?_)
  case b1 => simp; omega
  case b2 => have := HBL0.out.size; have := HBe.out; omega
  intro v1 w1 hown1 hgr1
  have hbel1 : Below B w w1 := HBL0.out.grown hgr1 (by have := HBL0.out.size; have := HBe.out; omega) (fun q hq => (HO0.out.lt q hq).1)
  have HO1 : Hid (w1.ownsRow B 104 5 v1 (L ++ List.replicate 0 mkF).length (gfl (L ++ List.replicate 0 mkF))) := by
    show World.ownsRow _ _ _ _ _ _ _
    rw [List.replicate_zero, List.append_nil]
    simpa using hown1
  clear hgr1 HO0 HBL0 hmk HC hown1
  have HBL1 := hide hbel1
  clear hbel1
  obtain ⟨a1, n1, c1, rfl⟩ : ∃ a n c, v1 = .slice a n c := by obtain ⟨a, c, h, _⟩ := own_formG HO1.out; exact ⟨a, _, c, h⟩
  go_wp2_with fail
  go_loopw [3, 4] (fun v i wr => ∃ (k : Nat) (a0 : Option Addr) (n0 c0 : Nat), k ≤ 9 ∧ v = .slice a0 n0 c0 ∧ i = .int .i64 k ∧ Hid (wr.ownsRow B 104 5 (.slice a0 n0 c0) (L ++ List.replicate k mkF).length (gfl (L ++ List.replicate k mkF))) ∧ Hid (Below B w wr)) (fun _ i _ => 9 - (intOf i).toNat)
  case atStart => exact ⟨0, _, _, _, by omega, rfl, rfl, HO1, HBL1⟩
  case round =>
    obtain ⟨k, a0, n0, c0, hk, rfl, rfl, HO, HBL⟩ := hrel
    clear HO1 HBL1
    by_cases hlt : k < 9
    · as_aux_lemma =>
      have hlt' : (k : Int) < 9 := by omega
      have HR : Hid ((L ++ List.replicate k mkF) ++ [mkF] = L ++ List.replicate (k + 1) mkF) := by show _ = _; rw [List.replicate_succ', List.append_assoc]
      have HOA := hide (HO.out.alloc (.cells mkF 104))
      have HBA : Hid (B ≤ (wr.alloc (.cells mkF 104)).heap.size) := by show _ ≤ _; have h1 := HBL.out.size; have h2 := HBe.out; simp; omega
      have HLN : Hid ((L ++ List.replicate k mkF).length ≤ 1000000) := by show _ ≤ _; simp; omega
      have HBB : Hid (∀ w' : World, (wr.alloc (.cells mkF 104)).grownBy w' (Value.slice a0 n0 c0).ownBlock → Below B w w') := fun w' hg => (HBL.out.alloc (by have := HBL.out.size; have := HBe.out; omega) _).grown hg HBA.out (fun q hq => (HO.out.lt q hq).1)
      have HAP : Hid (∀ (ops : Array Oper) (rest : List Oper) (o : Oper) (ac : Act) (Q : Exit → Act → World → Prop) (s y : Operand), o.guard = none → o.op = .call { callee := .builtin .append, args := #[s, y], argTypes := #[66, 66] } → ac.eval s = .slice a0 n0 c0 → ac.eval y = .slice (some ⟨wr.heap.size, 0, none⟩) 1 1 → (∀ v' w', w'.ownsRow B 104 5 v' (L ++ List.replicate (k + 1) mkF).length (gfl (L ++ List.replicate (k + 1) mkF)) → Below B w w' → wpList Tryz.prog ops Q rest (ac.put o.dst v') w') → wpList Tryz.prog ops Q (o :: rest) ac (wr.alloc (.cells mkF 104))) := fun ops rest o ac Q s y h1 h2 h3 h4 h5 =>
        append_g infoF4 Tryz.underlying66 rfl (by decide) (by decide) h1 h2 h3 HOA.out h4 (heap_alloc_new wr _) rfl mkF_one HLN.out HBA.out (fun v' w' h6 h7 _ => h5 v' w' (by rw [← HR.out, List.length_append]; exact h6) (HBB.out w' h7))
      clear HOA HBA HLN HBB HO HBL
      go_wp2_with (first
        | (refine row1 infoF4 Tryz.underlying66 (by decide) (by decide) rfl rfl rfl (c := mkF) rfl rfl ?_)
        | (refine HAP.out _ _ _ _ _ _ _ rfl rfl rfl rfl ?_; intro v' w' hr' hb'))
      obtain ⟨a2, n2, c2, rfl⟩ : ∃ a n c, v' = .slice a n c := by obtain ⟨a, c, h, _⟩ := own_formG hr'; exact ⟨a, _, c, h⟩
      have HR' := hide hr'
      have HB' := hide hb'
      clear hr' hb'
      go_wp2_with fail
      go_roundw
      case rel => exact ⟨k + 1, _, _, _, by omega, rfl, by go_num, HR', HB'⟩
      case measure => simp [intOf]; omega
    · as_aux_lemma =>
      have hlt' : ¬ (k : Int) < 9 := by omega
      have hk9 : k = 9 := by omega
      have ho := HO.out
      rw [hk9, List.length_append, List.length_replicate] at ho
      rcases id ho.2 with ⟨_, h0⟩ | ⟨g, cap', cur, hv, -, -, h1, -⟩
      · omega
      injection hv with e1 e2 e3
      subst e1
      subst e2
      subst e3
      have HO2 := hide ho
      have h2' : L.length ≤ c0 := by omega
      clear ho HO hlt h1 cur
      subst hk9
      go_wp2_with fail
      go_ret
      exact ⟨_, rfl, ⟨⟨g, c0, rfl, HO2.out⟩, HL.out, rfl⟩, HBL.out⟩
theorem lendF_any (w : World) (v : Value) (xs : List Fd) (hv : FSl w v xs) (hlen : xs.length ≤ 1000) : Calls Tryz.prog 45 #[v] w fun e w' => ∃ v', e = .returned v' ∧ Lgs 104 5 mkF w' w.heap.size v' (xs.map fdc) ∧ Below w.heap.size w w' := by
  obtain ⟨a, cap, rfl, h0, hc⟩ := gsl_row (f := fdc) (fun _ _ _ h => h.1) hv
  exact lendF_row w a cap _ (fun c hc => by obtain ⟨x, _, rfl⟩ := List.mem_map.1 hc; rfl) (fun u hu => by
    obtain ⟨c, hc, hu⟩ := List.mem_flatMap.1 hu
    obtain ⟨x, _, rfl⟩ := List.mem_map.1 hc
    exact fdc_one x u hu) (by rw [List.length_map]; exact hlen) h0 hc
theorem infoC4 : (Tryz.prog.info? 114).map (fun i => (i.zero, i.size, i.bytes)) = some (some (.agg #[.string ⟨#[]⟩, .string ⟨#[]⟩]), 2, 32) := by kernel_rfl
def mkC : Array Value := #[.string ⟨#[]⟩, .string ⟨#[109, 97, 114, 107]⟩]
theorem mkC_one : ∀ u ∈ mkC.toList, u.oneCell' = true := fun u hu => by
  simp only [mkC, List.mem_cons, List.not_mem_nil, or_false] at hu
  rcases hu with rfl | rfl <;> rfl
theorem czc_one (x : Cz) : ∀ u ∈ (czc x).toList, u.oneCell' = true := fun u hu => by
  simp only [czc, List.mem_cons, List.not_mem_nil, or_false] at hu
  rcases hu with rfl | rfl <;> rfl
set_option maxRecDepth 1000000 in
set_option maxHeartbeats 1000000 in
theorem lendC_row (w : World) (a : Option Addr) (cap : Nat) (L : List (Array Value)) (hl : ∀ c ∈ L, c.size = 2) (h1 : ∀ u ∈ gfl L, u.oneCell' = true) (hlen : L.length ≤ 1000) (hc0 : a = none → cap = 0) (hc : L = [] ∨ ∃ b off, a = some ⟨b, off, none⟩ ∧ ∀ (i : Nat) (d : Array Value), L[i]? = some d → ∀ j u, d[j]? = some u → w.cell? ⟨b, off + i * 2 + j, none⟩ = some u) :
    Calls Tryz.prog 46 #[.slice a L.length cap] w fun e w' => ∃ v', e = .returned v' ∧ Lgs 114 2 mkC w' w.heap.size v' L ∧ Below w.heap.size w w' := by
  obtain ⟨i9, hi, hz0, hz1, hz2⟩ := info_ex infoC4
  have HL := hide hl
  have H1 := hide h1
  have HC0 := hide hc0
  obtain ⟨w0, hmk, hown0, hgr0⟩ := run_make_own (P := Tryz.prog) w w.heap.size 67 114 i9 (.agg #[.string ⟨#[]⟩, .string ⟨#[]⟩]) 2 Tryz.underlying67 hi hz0 hz1 .i64 .i64 (L.length + 9) (by rw [hz2]; omega) (by unfold maxLen; omega) (Nat.le_refl _)
  have ec : ((L.length + 9 : Nat) : Int) = (L.length : Int) + 9 := by omega
  rw [ec] at hmk
  clear ec hi hz0 hz1 hz2
  have hbel0 : Below w.heap.size w w0 := (Below.refl _ _).grown hgr0 (Nat.le_refl _) (fun _ h => by cases h)
  have HC : Hid (L = [] ∨ ∃ b off, a = some ⟨b, off, none⟩ ∧ ∀ (i : Nat) (d : Array Value), L[i]? = some d → ∀ j u, d[j]? = some u → w0.cell? ⟨b, off + i * 2 + j, none⟩ = some u) := by
    rcases hc with h | ⟨b, off, e, h⟩
    · exact .inl h
    · exact .inr ⟨b, off, e, fun i d hd j u hu => keep_below hbel0 _ _ (h i d hd j u hu)⟩
  generalize hB : w.heap.size = B at *
  have HBe := hide hB
  clear hB hgr0 hc hl h1 hc0
  have HO0 : Hid (w0.ownsRow B 114 2 _ ([] : List (Array Value)).length (gfl [])) := hown0
  clear hown0
  have HBL0 := hide hbel0
  clear hbel0
  go_enter Tryz.func46, Tryz.ntmps46
  go_wp2_with (at_builtin; refine append_gs infoC4 Tryz.underlying67 rfl (by decide) (by decide) rfl rfl (L := []) (M := L) rfl HO0.out rfl HL.out H1.out ?b1 HC0.out HC.out ?b2 ?_)
  case b1 => simp; omega
  case b2 => have := HBL0.out.size; have := HBe.out; omega
  intro v1 w1 hown1 hgr1
  have hbel1 : Below B w w1 := HBL0.out.grown hgr1 (by have := HBL0.out.size; have := HBe.out; omega) (fun q hq => (HO0.out.lt q hq).1)
  have HO1 : Hid (w1.ownsRow B 114 2 v1 (L ++ List.replicate 0 mkC).length (gfl (L ++ List.replicate 0 mkC))) := by
    show World.ownsRow _ _ _ _ _ _ _
    rw [List.replicate_zero, List.append_nil]
    simpa using hown1
  clear hgr1 HO0 HBL0 hmk HC hown1
  have HBL1 := hide hbel1
  clear hbel1
  obtain ⟨a1, n1, c1, rfl⟩ : ∃ a n c, v1 = .slice a n c := by obtain ⟨a, c, h, _⟩ := own_formG HO1.out; exact ⟨a, _, c, h⟩
  go_wp2_with fail
  go_loopw [3, 4] (fun v i wr => ∃ (k : Nat) (a0 : Option Addr) (n0 c0 : Nat), k ≤ 9 ∧ v = .slice a0 n0 c0 ∧ i = .int .i64 k ∧ Hid (wr.ownsRow B 114 2 (.slice a0 n0 c0) (L ++ List.replicate k mkC).length (gfl (L ++ List.replicate k mkC))) ∧ Hid (Below B w wr)) (fun _ i _ => 9 - (intOf i).toNat)
  case atStart => exact ⟨0, _, _, _, by omega, rfl, rfl, HO1, HBL1⟩
  case round =>
    obtain ⟨k, a0, n0, c0, hk, rfl, rfl, HO, HBL⟩ := hrel
    clear HO1 HBL1
    by_cases hlt : k < 9
    · as_aux_lemma =>
      have hlt' : (k : Int) < 9 := by omega
      have HR : Hid ((L ++ List.replicate k mkC) ++ [mkC] = L ++ List.replicate (k + 1) mkC) := by show _ = _; rw [List.replicate_succ', List.append_assoc]
      have HOA := hide (HO.out.alloc (.cells mkC 114))
      have HBA : Hid (B ≤ (wr.alloc (.cells mkC 114)).heap.size) := by show _ ≤ _; have h1 := HBL.out.size; have h2 := HBe.out; simp; omega
      have HLN : Hid ((L ++ List.replicate k mkC).length ≤ 1000000) := by show _ ≤ _; simp; omega
      have HBB : Hid (∀ w' : World, (wr.alloc (.cells mkC 114)).grownBy w' (Value.slice a0 n0 c0).ownBlock → Below B w w') := fun w' hg => (HBL.out.alloc (by have := HBL.out.size; have := HBe.out; omega) _).grown hg HBA.out (fun q hq => (HO.out.lt q hq).1)
      have HAP : Hid (∀ (ops : Array Oper) (rest : List Oper) (o : Oper) (ac : Act) (Q : Exit → Act → World → Prop) (s y : Operand), o.guard = none → o.op = .call { callee := .builtin .append, args := #[s, y], argTypes := #[67, 67] } → ac.eval s = .slice a0 n0 c0 → ac.eval y = .slice (some ⟨wr.heap.size, 0, none⟩) 1 1 → (∀ v' w', w'.ownsRow B 114 2 v' (L ++ List.replicate (k + 1) mkC).length (gfl (L ++ List.replicate (k + 1) mkC)) → Below B w w' → wpList Tryz.prog ops Q rest (ac.put o.dst v') w') → wpList Tryz.prog ops Q (o :: rest) ac (wr.alloc (.cells mkC 114))) := fun ops rest o ac Q s y h1 h2 h3 h4 h5 =>
        append_g infoC4 Tryz.underlying67 rfl (by decide) (by decide) h1 h2 h3 HOA.out h4 (heap_alloc_new wr _) rfl mkC_one HLN.out HBA.out (fun v' w' h6 h7 _ => h5 v' w' (by rw [← HR.out, List.length_append]; exact h6) (HBB.out w' h7))
      clear HOA HBA HLN HBB HO HBL
      go_wp2_with (first
        | (refine row1 infoC4 Tryz.underlying67 (by decide) (by decide) rfl rfl rfl (c := mkC) rfl rfl ?_)
        | (refine HAP.out _ _ _ _ _ _ _ rfl rfl rfl rfl ?_; intro v' w' hr' hb'))
      obtain ⟨a2, n2, c2, rfl⟩ : ∃ a n c, v' = .slice a n c := by obtain ⟨a, c, h, _⟩ := own_formG hr'; exact ⟨a, _, c, h⟩
      have HR' := hide hr'
      have HB' := hide hb'
      clear hr' hb'
      go_wp2_with fail
      go_roundw
      case rel => exact ⟨k + 1, _, _, _, by omega, rfl, by go_num, HR', HB'⟩
      case measure => simp [intOf]; omega
    · as_aux_lemma =>
      have hlt' : ¬ (k : Int) < 9 := by omega
      have hk9 : k = 9 := by omega
      have ho := HO.out
      rw [hk9, List.length_append, List.length_replicate] at ho
      rcases id ho.2 with ⟨_, h0⟩ | ⟨g, cap', cur, hv, -, -, h1, -⟩
      · omega
      injection hv with e1 e2 e3
      subst e1
      subst e2
      subst e3
      have HO2 := hide ho
      have h2' : L.length ≤ c0 := by omega
      clear ho HO hlt h1 cur
      subst hk9
      go_wp2_with fail
      go_ret
      exact ⟨_, rfl, ⟨⟨g, c0, rfl, HO2.out⟩, HL.out, rfl⟩, HBL.out⟩
theorem lendC_any (w : World) (v : Value) (xs : List Cz) (hv : CSl w v xs) (hlen : xs.length ≤ 1000) : Calls Tryz.prog 46 #[v] w fun e w' => ∃ v', e = .returned v' ∧ Lgs 114 2 mkC w' w.heap.size v' (xs.map czc) ∧ Below w.heap.size w w' := by
  obtain ⟨a, cap, rfl, h0, hc⟩ := gsl_row (f := czc) (fun _ _ _ h => h.1) hv
  exact lendC_row w a cap _ (fun c hc => by obtain ⟨x, _, rfl⟩ := List.mem_map.1 hc; rfl) (fun u hu => by
    obtain ⟨c, hc, hu⟩ := List.mem_flatMap.1 hu
    obtain ⟨x, _, rfl⟩ := List.mem_map.1 hc
    exact czc_one x u hu) (by rw [List.length_map]; exact hlen) h0 hc
end
section
open Go.RowKit Go
theorem memb_take_no11 {L : List ByteArray} {s : ByteArray} {j : Nat} (h : ∀ i t, i < j → L[i]? = some t → t ≠ s) (hj : L.length ≤ j) : memb L s = false := by
  cases hm : memb L s with
  | false => rfl
  | true =>
    obtain ⟨i, hi, e⟩ := List.getElem_of_mem (memb_iff.1 hm)
    exact absurd e (h i _ (by omega) (List.getElem?_eq_getElem hi))
set_option maxRecDepth 1000000 in
set_option maxHeartbeats 1000000 in
theorem is11_any (w : World) (v : Value) (L : List ByteArray) (hv : SSl w v L) (s : ByteArray) : Calls Tryz.prog 55 #[v, .string s] w fun e w' => e = .returned (.bool (memb L s)) ∧ w' = w := by
  have hmax := hv.max
  obtain ⟨⟨a, cap, rfl, hn, hc⟩, _, _⟩ := hv
  have HC := hide hc
  clear hc hn
  go_enter Tryz.func55, Tryz.ntmps55
  go_wp2_with fail
  go_loopw [5] (fun vi wx => ∃ i : Nat, i ≤ L.length ∧ vi = .int .i64 (i : Nat) ∧ wx = w ∧ Hid (∀ j t, j < i → L[j]? = some t → t ≠ s)) (fun vi _ => L.length - (intOf vi).toNat)
  case atStart => exact ⟨0, by omega, rfl, rfl, fun j _ hj => absurd hj (by omega)⟩
  case round =>
    obtain ⟨i, hi, rfl, hw, HN⟩ := hrel
    subst hw
    by_cases hlt : i < L.length
    · have g1 : (i : Int) < (L.length : Int) := by omega
      obtain ⟨b, off, rfl, hcc⟩ := HC.out.resolve_left (fun h => by rw [h] at hlt; simp at hlt)
      obtain ⟨t, ht⟩ : ∃ t, L[i]? = some t := ⟨_, List.getElem?_eq_getElem hlt⟩
      have q1 := hcc i t ht
      have HT := hide ht
      have HM := hide (List.mem_of_getElem? ht)
      clear ht hcc HC
      by_cases he : t = s
      · subst he
        have e1 := str_yes t
        have HR : Hid (memb L t = true) := memb_iff.2 HM.out
        go_wp2_with fail
        go_ret
        exact ⟨by rw [HR.out]; rfl, rfl⟩
      · have e1 := str_no he
        have HN2 : Hid (∀ j u, j < i + 1 → L[j]? = some u → u ≠ s) := fun j u hj hu => by
          by_cases e : j = i
          · subst e
            rw [HT.out] at hu
            rw [← Option.some.inj hu]
            exact he
          · exact HN.out j u (by omega) hu
        clear HN he
        go_wp2_with fail
        go_roundw
        case rel => exact ⟨i + 1, by omega, by go_num, trivial, HN2⟩
        case measure => simp [intOf]; omega
    · have g1 : ¬ (i : Int) < (L.length : Int) := by omega
      have HR := hide (memb_take_no11 HN.out (by omega))
      go_wp2_with fail
      go_ret
      exact ⟨by rw [HR.out]; rfl, rfl⟩
def pli (l : List Tp) (s : ByteArray) : Int := match plc l s with | some i => (i : Nat) | none => -1
theorem plc_skip {l : List Tp} {s : ByteArray} : ∀ {i : Nat}, (∀ j t, j < i → l[j]? = some t → t.n ≠ s) → plc l s = (plc (l.drop i) s).map (· + i) := by
  intro i
  induction i generalizing l with
  | zero => intro _; simp
  | succ i ih =>
    intro h
    cases l with
    | nil => simp [plc]
    | cons t r =>
      have h0 := h 0 t (by omega) rfl
      rw [plc, if_neg h0, ih (fun j u hj hu => h (j + 1) u (by omega) (by simpa using hu)), List.drop_succ_cons, Option.map_map]
      congr 1
set_option maxRecDepth 1000000 in
set_option maxHeartbeats 1000000 in
theorem place11_any (w : World) (v : Value) (l : List Tp) (hv : TSl w v l) (s : ByteArray) : Calls Tryz.prog 56 #[v, .string s] w fun e w' => e = .returned (.int .i64 (pli l s)) ∧ w' = w := by
  have hmax := hv.max
  obtain ⟨⟨a, cap, rfl, hn, hc⟩, _⟩ := hv
  have HC := hide hc
  clear hc hn
  go_enter Tryz.func56, Tryz.ntmps56
  go_wp2_with fail
  go_loopw [5] (fun vi wx => ∃ i : Nat, i ≤ l.length ∧ vi = .int .i64 (i : Nat) ∧ wx = w ∧ Hid (∀ j t, j < i → l[j]? = some t → t.n ≠ s)) (fun vi _ => l.length - (intOf vi).toNat)
  case atStart => exact ⟨0, by omega, rfl, rfl, fun j _ hj => absurd hj (by omega)⟩
  case round =>
    obtain ⟨i, hi, rfl, hw, HN⟩ := hrel
    subst hw
    by_cases hlt : i < l.length
    · have g1 : (i : Int) < (l.length : Int) := by omega
      obtain ⟨b, off, rfl, hcc⟩ := HC.out.resolve_left (fun h => by rw [h] at hlt; simp at hlt)
      obtain ⟨t, ht⟩ : ∃ t, l[i]? = some t := ⟨_, List.getElem?_eq_getElem hlt⟩
      obtain ⟨c, ⟨⟨vf, vc, vw, rfl, _⟩, _⟩, hcell⟩ := hcc i t ht
      have q1 := hcell 0 (.string t.n) rfl
      rw [Nat.add_zero] at q1
      have HT := hide ht
      clear ht hcc HC hcell
      by_cases he : t.n = s
      · subst he
        have e1 := str_yes t.n
        have HR : Hid (pli l t.n = (i : Nat)) := by
          show _ = _
          unfold pli
          rw [plc_skip HN.out]
          obtain ⟨hi2, e2⟩ := List.getElem?_eq_some_iff.1 HT.out
          rw [List.drop_eq_getElem_cons hi2, e2, plc, if_pos rfl]
          simp
        go_wp2_with fail
        go_ret
        exact ⟨by rw [HR.out]; rfl, rfl⟩
      · have e1 := str_no he
        have HN2 : Hid (∀ j u, j < i + 1 → l[j]? = some u → u.n ≠ s) := fun j u hj hu => by
          by_cases e : j = i
          · subst e
            rw [HT.out] at hu
            rw [← Option.some.inj hu]
            exact he
          · exact HN.out j u (by omega) hu
        clear HN he
        go_wp2_with fail
        go_roundw
        case rel => exact ⟨i + 1, by omega, by go_num, trivial, HN2⟩
        case measure => simp [intOf]; omega
    · have g1 : ¬ (i : Int) < (l.length : Int) := by omega
      have HR : Hid (pli l s = -1) := by
        show _ = _
        unfold pli
        rw [plc_skip HN.out, List.drop_eq_nil_of_le (by omega)]
        rfl
      go_wp2_with fail
      go_ret
      exact ⟨by rw [HR.out]; rfl, rfl⟩
end
section
open Go.RowKit Go
def bltn : List ByteArray := [⟨#[97, 110, 121]⟩, ⟨#[98, 111, 111, 108]⟩, ⟨#[98, 121, 116, 101, 115]⟩, ⟨#[102, 108, 111, 97, 116]⟩, ⟨#[105, 110, 116]⟩, ⟨#[108, 105, 110, 107]⟩, ⟨#[110, 117, 108, 108]⟩, ⟨#[115, 105, 110, 103, 108, 101]⟩, ⟨#[116, 101, 120, 116]⟩]
theorem bltn_own : bltn.all (fun s => (ownK s).isSome) = true := by decide
theorem own_bltn : owns.all (fun p => memb bltn p.1) = true := by decide
theorem memb_bltn (s : ByteArray) : memb bltn s = (ownK s).isSome := by
  rw [Bool.eq_iff_iff, memb_iff]
  constructor
  · intro h
    exact List.all_eq_true.1 bltn_own s h
  · intro h
    unfold ownK at h
    rw [Option.isSome_map] at h
    obtain ⟨p, hp⟩ := Option.isSome_iff_exists.1 h
    have h1 := List.mem_of_find?_eq_some hp
    have h2 : p.1 = s := by simpa using List.find?_some hp
    rw [← h2]
    exact memb_iff.1 (List.all_eq_true.1 own_bltn p h1)
set_option maxRecDepth 1000000 in
theorem builtIn11_any (w : World) : Calls Tryz.prog 25 #[] w fun e w' => ∃ v, e = .returned v ∧ SSl w' v bltn ∧ Below w.heap.size w w' := by
  go_enter Tryz.func25, Tryz.ntmps25
  go_wp2_with fail
  go_ret
  refine ⟨_, rfl, ⟨⟨_, 9, rfl, ⟨Nat.le_refl _, fun h => by cases h⟩, .inr ⟨w.heap.size, 0, rfl, fun j s hs => ?_⟩⟩, by decide, fun s hs => ?_⟩, below_alloc4 w _⟩
  · rw [Nat.zero_add]
    refine blk_cell (heap_alloc_new w _) ?_
    show (bltn.map Value.string).toArray[j]? = _
    rw [List.getElem?_toArray, List.getElem?_map, hs]
    rfl
  · have h : bltn.all (fun s => decide (s.size ≤ 140737488351232)) = true := by decide
    exact of_decide_eq_true (List.all_eq_true.1 h s hs)
def lttr (c : Nat) : Bool := decide (97 ≤ c ∧ c ≤ 122) || decide (65 ≤ c ∧ c ≤ 90) || decide (48 ≤ c ∧ c ≤ 57)
set_option maxRecDepth 1000000 in
set_option maxHeartbeats 1000000 in
theorem named11_any (w : World) (s : ByteArray) : Calls Tryz.prog 54 #[.string s] w fun e w' => e = .returned (.bool (nbl s)) ∧ w' = w := by
  have hnot : ∀ (x : Bool) (w : World), (Op.unary .not (.bool x)).run Tryz.prog w = .ok (.bool (!x)) w := fun _ _ => rfl
  by_cases h0 : 0 < s.size
  · by_cases h64 : s.size ≤ 64
    · have g1 : ¬ (s.size : Int) < 1 := by omega
      have g2 : ¬ (64 : Int) < s.size := by omega
      go_enter Tryz.func54, Tryz.ntmps54
      go_wp2_with fail
      clear g1 g2
      go_loopw [3] (fun vi wx => ∃ i : Nat, i ≤ s.size ∧ vi = .int .i64 (i : Nat) ∧ wx = w ∧ Hid (∀ j (h : j < s.size), j < i → nby s[j].toNat = true)) (fun vi _ => s.size - (intOf vi).toNat)
      case atStart => exact ⟨0, by omega, rfl, rfl, fun j _ hj => absurd hj (by omega)⟩
      case round =>
        obtain ⟨i, hi, rfl, hw, HN⟩ := hrel
        subst hw
        by_cases hlt : i < s.size
        · have g1 : (i : Int) < (s.size : Int) := by omega
          go_upto_region 7 with fail
          go_cut [5] from 23 to 58 (fun a wx => a = .bool (lttr s[i].toNat) ∧ wx = wr)
          case first =>
            by_cases w0 : 97 ≤ s[i].toNat ∧ s[i].toNat ≤ 122
            · have HL : Hid (lttr s[i].toNat = true) := by show _ = _; unfold lttr; simp only [Bool.or_eq_true, decide_eq_true_eq]; omega
              have g2 : ((97 : Int) ≤ ((s[i].toNat : Nat) : Int)) := by omega
              have g3 : (((s[i].toNat : Nat) : Int) ≤ (122 : Int)) := by omega
              clear w0
              go_wp2_with fail
              go_meet
              case rel => exact ⟨by rw [HL.out], rfl⟩
            by_cases w1 : 65 ≤ s[i].toNat ∧ s[i].toNat ≤ 90
            · have HL : Hid (lttr s[i].toNat = true) := by show _ = _; unfold lttr; simp only [Bool.or_eq_true, decide_eq_true_eq]; omega
              have g2 : ¬ ((97 : Int) ≤ ((s[i].toNat : Nat) : Int)) := by omega
              have g3 : ((65 : Int) ≤ ((s[i].toNat : Nat) : Int)) := by omega
              have g4 : (((s[i].toNat : Nat) : Int) ≤ (90 : Int)) := by omega
              clear w0 w1
              go_wp2_with fail
              go_meet
              case rel => exact ⟨by rw [HL.out], rfl⟩
            by_cases w2 : 48 ≤ s[i].toNat ∧ s[i].toNat ≤ 57
            · have HL : Hid (lttr s[i].toNat = true) := by show _ = _; unfold lttr; simp only [Bool.or_eq_true, decide_eq_true_eq]; omega
              have g2 : ¬ ((97 : Int) ≤ ((s[i].toNat : Nat) : Int)) := by omega
              have g3 : ¬ ((65 : Int) ≤ ((s[i].toNat : Nat) : Int)) := by omega
              have g4 : ((48 : Int) ≤ ((s[i].toNat : Nat) : Int)) := by omega
              have g5 : (((s[i].toNat : Nat) : Int) ≤ (57 : Int)) := by omega
              clear w0 w1 w2
              go_wp2_with fail
              go_meet
              case rel => exact ⟨by rw [HL.out], rfl⟩
            by_cases w3 : 122 < s[i].toNat
            · have HL : Hid (lttr s[i].toNat = false) := by show _ = _; unfold lttr; simp only [Bool.or_eq_false_iff, decide_eq_false_iff_not]; omega
              have g2 : ((97 : Int) ≤ ((s[i].toNat : Nat) : Int)) := by omega
              have g3 : ¬ (((s[i].toNat : Nat) : Int) ≤ (122 : Int)) := by omega
              have g4 : ((65 : Int) ≤ ((s[i].toNat : Nat) : Int)) := by omega
              have g5 : ¬ (((s[i].toNat : Nat) : Int) ≤ (90 : Int)) := by omega
              have g6 : ((48 : Int) ≤ ((s[i].toNat : Nat) : Int)) := by omega
              have g7 : ¬ (((s[i].toNat : Nat) : Int) ≤ (57 : Int)) := by omega
              clear w0 w1 w2 w3
              go_wp2_with fail
              go_meet
              case rel => exact ⟨by rw [HL.out], rfl⟩
            by_cases w4 : 90 < s[i].toNat
            · have HL : Hid (lttr s[i].toNat = false) := by show _ = _; unfold lttr; simp only [Bool.or_eq_false_iff, decide_eq_false_iff_not]; omega
              have g2 : ¬ ((97 : Int) ≤ ((s[i].toNat : Nat) : Int)) := by omega
              have g3 : ((65 : Int) ≤ ((s[i].toNat : Nat) : Int)) := by omega
              have g4 : ¬ (((s[i].toNat : Nat) : Int) ≤ (90 : Int)) := by omega
              have g5 : ((48 : Int) ≤ ((s[i].toNat : Nat) : Int)) := by omega
              have g6 : ¬ (((s[i].toNat : Nat) : Int) ≤ (57 : Int)) := by omega
              clear w0 w1 w2 w3 w4
              go_wp2_with fail
              go_meet
              case rel => exact ⟨by rw [HL.out], rfl⟩
            by_cases w5 : 57 < s[i].toNat
            · have HL : Hid (lttr s[i].toNat = false) := by show _ = _; unfold lttr; simp only [Bool.or_eq_false_iff, decide_eq_false_iff_not]; omega
              have g2 : ¬ ((97 : Int) ≤ ((s[i].toNat : Nat) : Int)) := by omega
              have g3 : ¬ ((65 : Int) ≤ ((s[i].toNat : Nat) : Int)) := by omega
              have g4 : ((48 : Int) ≤ ((s[i].toNat : Nat) : Int)) := by omega
              have g5 : ¬ (((s[i].toNat : Nat) : Int) ≤ (57 : Int)) := by omega
              clear w0 w1 w2 w3 w4 w5
              go_wp2_with fail
              go_meet
              case rel => exact ⟨by rw [HL.out], rfl⟩
            have HL : Hid (lttr s[i].toNat = false) := by show _ = _; unfold lttr; simp only [Bool.or_eq_false_iff, decide_eq_false_iff_not]; omega
            have g2 : ¬ ((97 : Int) ≤ ((s[i].toNat : Nat) : Int)) := by omega
            have g3 : ¬ ((65 : Int) ≤ ((s[i].toNat : Nat) : Int)) := by omega
            have g4 : ¬ ((48 : Int) ≤ ((s[i].toNat : Nat) : Int)) := by omega
            clear w0 w1 w2 w3 w4 w5
            go_wp2_with fail
            go_meet
            case rel => exact ⟨by rw [HL.out], rfl⟩
          case rest =>
            obtain ⟨rfl, hww⟩ := hcut
            have hww := hww.symm
            subst hww
            have HNB : Hid (nby s[i].toNat = (lttr s[i].toNat || decide (s[i].toNat = 45) || decide (s[i].toNat = 46) || decide (s[i].toNat = 95))) := rfl
            have key : ∀ {b : Bool}, nby s[i].toNat = b → Hid (b = true → ∀ j (h : j < s.size), j < i + 1 → nby s[j].toNat = true) := fun hb h j hj hji => by
              by_cases e : j = i
              · subst e
                rw [hb, h]
              · exact HN.out j hj (by omega)
            have kno : nby s[i].toNat = false → Hid (nbl s = false) := fun hb => by
              show _ = _
              unfold nbl
              rw [Bool.and_eq_false_iff]
              refine .inr ?_
              rw [← Bool.not_eq_true]
              intro hall
              have h1 := List.all_eq_true.1 hall s[i] (by
                rw [ByteArray.getElem_eq_getElem_data]
                exact Array.mem_toList_iff.2 (Array.getElem_mem _))
              rw [hb] at h1
              cases h1
            cases hL : lttr s[i].toNat
            · by_cases c45 : s[i].toNat = 45
              · have HK := key (b := true) (by rw [HNB.out, hL, decide_eq_true c45]; rfl)
                have m1 : (((s[i].toNat : Nat) : Int) != 45) = false := by rw [bne_eq_false_iff_eq]; omega
                clear c45
                clear key kno HNB HN
                go_wp2_with fail
                go_roundw
                case rel => exact ⟨i + 1, by omega, by go_num, trivial, HK.out rfl⟩
                case measure => simp [intOf]; omega
              have m1 : (((s[i].toNat : Nat) : Int) != 45) = true := by rw [bne_iff_ne]; omega
              by_cases c46 : s[i].toNat = 46
              · have HK := key (b := true) (by rw [HNB.out, hL, decide_eq_false c45, decide_eq_true c46]; rfl)
                have m2 : (((s[i].toNat : Nat) : Int) != 46) = false := by rw [bne_eq_false_iff_eq]; omega
                clear c45 c46
                clear key kno HNB HN
                go_wp2_with fail
                go_roundw
                case rel => exact ⟨i + 1, by omega, by go_num, trivial, HK.out rfl⟩
                case measure => simp [intOf]; omega
              have m2 : (((s[i].toNat : Nat) : Int) != 46) = true := by rw [bne_iff_ne]; omega
              by_cases c95 : s[i].toNat = 95
              · have HK := key (b := true) (by rw [HNB.out, hL, decide_eq_false c45, decide_eq_false c46, decide_eq_true c95]; rfl)
                have m3 : (((s[i].toNat : Nat) : Int) != 95) = false := by rw [bne_eq_false_iff_eq]; omega
                clear c45 c46 c95
                clear key kno HNB HN
                go_wp2_with fail
                go_roundw
                case rel => exact ⟨i + 1, by omega, by go_num, trivial, HK.out rfl⟩
                case measure => simp [intOf]; omega
              have m3 : (((s[i].toNat : Nat) : Int) != 95) = true := by rw [bne_iff_ne]; omega
              have HK := kno (by rw [HNB.out, hL, decide_eq_false c45, decide_eq_false c46, decide_eq_false c95]; rfl)
              clear key kno HNB HN c45 c46 c95
              go_wp2_with fail
              go_ret
              exact ⟨by rw [HK.out]; rfl, rfl⟩
            · have HK := key (b := true) (by rw [HNB.out, hL]; rfl)
              clear key kno HNB HN
              go_wp2_with fail
              go_roundw
              case rel => exact ⟨i + 1, by omega, by go_num, trivial, HK.out rfl⟩
              case measure => simp [intOf]; omega
        · have g1 : ¬ (i : Int) < (s.size : Int) := by omega
          have HR : Hid (nbl s = true) := by
            show _ = _
            unfold nbl
            rw [decide_eq_true h0, decide_eq_true h64, Bool.true_and, Bool.true_and, List.all_eq_true]
            intro c hc
            obtain ⟨j, hj, e⟩ := List.getElem_of_mem hc
            have hj2 : j < s.size := by simpa using hj
            have h1 := HN.out j hj2 (by omega)
            rw [← e]
            exact h1
          go_wp2_with fail
          go_ret
          exact ⟨by rw [HR.out]; rfl, rfl⟩
    · have g1 : ¬ (s.size : Int) < 1 := by omega
      have g2 : (64 : Int) < s.size := by omega
      have HR : Hid (nbl s = false) := by show _ = _; unfold nbl; rw [decide_eq_false h64, Bool.and_false, Bool.false_and]
      clear h0 h64
      go_enter Tryz.func54, Tryz.ntmps54
      go_wp2_with fail
      go_ret
      exact ⟨by rw [HR.out]; rfl, rfl⟩
  · have g1 : (s.size : Int) < 1 := by omega
    have HR : Hid (nbl s = false) := by show _ = _; unfold nbl; rw [decide_eq_false h0, Bool.false_and, Bool.false_and]
    clear h0
    go_enter Tryz.func54, Tryz.ntmps54
    go_wp2_with fail
    go_ret
    exact ⟨by rw [HR.out]; rfl, rfl⟩
end
section
open Go.RowKit Go
def fwr (l : List Tp) : Nat → ByteArray → Bool → ByteArray × Bool × Bool
  | 0, _, _ => (⟨#[]⟩, false, false)
  | k + 1, s, z => match plc l s with
    | none => (s, z || (decide (s = nAny) || decide (s = nNull)), true)
    | some i => if (l.getD i ztp).k = 1 then fwr l k (l.getD i ztp).r.n (z || (l.getD i ztp).r.z) else (s, z, true)
def flr (l : List Tp) (s : ByteArray) : ByteArray × Bool × Bool := fwr l (l.length + 1) s false
theorem fwr_none {l : List Tp} {k : Nat} {s : ByteArray} {z : Bool} (h : plc l s = none) : fwr l (k + 1) s z = (s, z || (decide (s = nAny) || decide (s = nNull)), true) := by rw [fwr, h]
theorem fwr_end {l : List Tp} {k i : Nat} {s : ByteArray} {z : Bool} {t : Tp} (h : plc l s = some i) (ht : l[i]? = some t) (hk : t.k ≠ 1) : fwr l (k + 1) s z = (s, z, true) := by
  rw [fwr, h]
  simp only [List.getD, ht, Option.getD_some]
  rw [if_neg hk]
theorem fwr_on {l : List Tp} {k i : Nat} {s : ByteArray} {z : Bool} {t : Tp} (h : plc l s = some i) (ht : l[i]? = some t) (hk : t.k = 1) : fwr l (k + 1) s z = fwr l k t.r.n (z || t.r.z) := by
  rw [fwr, h]
  simp only [List.getD, ht, Option.getD_some]
  rw [if_pos hk]
theorem strB (s t : ByteArray) : (s.toList == t.toList) = decide (s = t) := by
  by_cases h : s = t
  · subst h
    rw [str_yes, decide_eq_true rfl]
  · rw [str_no h, decide_eq_false h]
set_option maxRecDepth 1000000 in
set_option maxHeartbeats 1000000 in
theorem follow11_any (w : World) (v : Value) (l : List Tp) (hv : TSl w v l) (s : ByteArray) : Calls Tryz.prog 23 #[v, .string s] w fun e w' => e = .returned (.tuple #[.string (flr l s).1, .bool (flr l s).2.1, .bool (flr l s).2.2]) ∧ w' = w := by
  have hmax := hv.max
  have HV := hide hv
  obtain ⟨⟨a, cap, rfl, hn, hc⟩, _⟩ := hv
  have HC := hide hc
  clear hc hn
  go_enter Tryz.func23, Tryz.ntmps23
  go_wp2_with fail
  go_loopw [1, 7, 8] (fun vs vz vi wx => ∃ (i : Nat) (s' : ByteArray) (z : Bool), i ≤ l.length + 1 ∧ vs = .string s' ∧ vz = .bool z ∧ vi = .int .i64 (i : Nat) ∧ wx = w ∧ Hid (flr l s = fwr l (l.length + 1 - i) s' z)) (fun _ _ vi _ => l.length + 1 - (intOf vi).toNat)
  case atStart => exact ⟨0, s, false, by omega, rfl, rfl, rfl, rfl, rfl⟩
  case round =>
    obtain ⟨i, s', z, hi, rfl, rfl, rfl, hw, HF⟩ := hrel
    subst hw
    have HP := hide (place11_any wr (.slice a l.length cap) l HV.out s')
    by_cases hlt : i < l.length + 1
    · have g1 : (i : Int) ≤ (l.length : Int) := by omega
      have HS : Hid (l.length + 1 - i = (l.length + 1 - (i + 1)) + 1) := by show _ = _; omega
      rw [HS.out] at HF
      cases hp : plc l s' with
      | none =>
        have HPL : Hid (pli l s' = -1) := by show _ = _; unfold pli; rw [hp]
        rw [HPL.out] at HP
        have HE : Hid (flr l s = (s', z || (decide (s' = nAny) || decide (s' = nNull)), true)) := HF.out.trans (fwr_none hp)
        have e1 := strB s' nAny
        have e2 := strB s' nNull
        rw [any_list] at e1
        rw [null_list] at e2
        clear hp HPL HF HS
        generalize decide (s' = nAny) = b1 at *
        generalize decide (s' = nNull) = b2 at *
        cases z <;> cases b1 <;> cases b2 <;> (
          go_wp2_with (go_at_call 56; refine HP.out.mono ?_; rintro e wq ⟨rfl, hwq⟩; have hwq := hwq.symm; subst hwq)
          go_ret3
          exact ⟨by rw [HE.out]; rfl, rfl⟩)
      | some j =>
        have HPL : Hid (pli l s' = (j : Nat)) := by show _ = _; unfold pli; rw [hp]
        rw [HPL.out] at HP
        obtain ⟨t, ht, htn⟩ := plc_lt hp
        have hjl : j < l.length := (List.getElem?_eq_some_iff.1 ht).1
        have g2 : (j : Int) < (l.length : Int) := by omega
        have g3 : ¬ (j : Int) < 0 := by omega
        obtain ⟨b, off, rfl, hcc⟩ := HC.out.resolve_left (fun h => by rw [h] at hjl; simp at hjl)
        obtain ⟨c, ⟨⟨vf, vc, vw, rfl, _⟩, _⟩, hcell⟩ := hcc j t ht
        have q1 := hcell 1 (.int .i64 t.k) rfl
        have q4 := hcell 4 (.string t.r.n) rfl
        have q5 := hcell 5 (.bool t.r.z) rfl
        by_cases hk : t.k = 1
        · have g4 : (t.k != 1) = false := by rw [bne_eq_false_iff_eq]; exact hk
          have HE : Hid (flr l s = fwr l (l.length + 1 - (i + 1)) t.r.n (z || t.r.z)) := HF.out.trans (fwr_on hp ht hk)
          clear hp HPL HF HS ht htn hk hcc hcell
          cases z
          · go_wp2_with (go_at_call 56; refine HP.out.mono ?_; rintro e wq ⟨rfl, hwq⟩; have hwq := hwq.symm; subst hwq)
            go_roundw
            case rel => exact ⟨i + 1, _, _, by omega, rfl, rfl, by go_num, trivial, HE⟩
            case measure => simp [intOf]; omega
          · go_wp2_with (go_at_call 56; refine HP.out.mono ?_; rintro e wq ⟨rfl, hwq⟩; have hwq := hwq.symm; subst hwq)
            go_roundw
            case rel => exact ⟨i + 1, _, _, by omega, rfl, rfl, by go_num, trivial, HE⟩
            case measure => simp [intOf]; omega
        · have g4 : (t.k != 1) = true := by rw [bne_iff_ne]; exact hk
          have HE : Hid (flr l s = (s', z, true)) := HF.out.trans (fwr_end hp ht hk)
          clear hp HPL HF HS ht htn hk hcc hcell
          cases z
          · go_wp2_with (go_at_call 56; refine HP.out.mono ?_; rintro e wq ⟨rfl, hwq⟩; have hwq := hwq.symm; subst hwq)
            go_ret3
            exact ⟨by rw [HE.out]; rfl, rfl⟩
          · go_wp2_with (go_at_call 56; refine HP.out.mono ?_; rintro e wq ⟨rfl, hwq⟩; have hwq := hwq.symm; subst hwq)
            go_ret3
            exact ⟨by rw [HE.out]; rfl, rfl⟩
    · have g1 : ¬ (i : Int) ≤ (l.length : Int) := by omega
      have HE : Hid (flr l s = (⟨#[]⟩, false, false)) := by
        rw [show l.length + 1 - i = 0 by omega] at HF
        exact HF.out
      go_wp2_with fail
      go_ret3
      exact ⟨by rw [HE.out]; rfl, rfl⟩
end
section
open Go.RowKit Go
def usN (k : Int) : Bool := decide (k = 2 ∨ k = 3 ∨ k = 4)
def usR (k : Int) : Bool := decide (k = 1 ∨ k = 3 ∨ k = 4)
def usF (k : Int) : Bool := decide (k = 5 ∨ k = 6)
def usC (k : Int) : Bool := decide (k = 7 ∨ k = 8)
def usW (k : Int) : Bool := decide (k = 9)
def onc (t : Tp) (vf vc vw : Value) : Array Value := #[.string t.n, .int .i64 t.k, .int .i64 (if usN t.k then t.lo else 0), .int .i64 (if usN t.k then t.hi else 0), .string (if usR t.k then t.r.n else ⟨#[]⟩), .bool (if usR t.k then t.r.z else false), if usF t.k then vf else .slice none 0 0, if usC t.k then vc else .slice none 0 0, if usW t.k then vw else .slice none 0 0]
theorem blk3 (w : World) (A B C : Obj) : (((w.alloc A).alloc B).alloc C).heap[w.heap.size + 1]? = some B := by
  have h := heap_alloc_new (w.alloc A) B
  rw [show (w.alloc A).heap.size = w.heap.size + 1 by simp] at h
  exact blk_alloc C h
theorem bel3 (w : World) (A B C : Obj) : Below w.heap.size w (((w.alloc A).alloc B).alloc C) := ((below_alloc4 w A).trans ((below_alloc4 _ B).mono (by simp))).trans ((below_alloc4 _ C).mono (by simp; omega))
set_option maxRecDepth 1000000 in
set_option maxHeartbeats 2000000 in
theorem only11_any (w : World) (t : Tp) (af ac aw : Option Addr) (cf cc cw : Nat) : Calls Tryz.prog 109 #[.agg #[.string t.n, .int .i64 t.k, .int .i64 t.lo, .int .i64 t.hi, .string t.r.n, .bool t.r.z, .slice af t.fs.length cf, .slice ac t.cs.length cc, .slice aw t.ws.length cw]] w fun e w' => e = .returned (.agg (onc t (.slice af t.fs.length cf) (.slice ac t.cs.length cc) (.slice aw t.ws.length cw))) ∧ Below w.heap.size w w' := by
  by_cases h0 : t.k = 1
  · have HE : Hid (onc t (.slice af t.fs.length cf) (.slice ac t.cs.length cc) (.slice aw t.ws.length cw) = #[.string t.n, .int .i64 t.k, .int .i64 0, .int .i64 0, .string t.r.n, .bool t.r.z, .slice none 0 0, .slice none 0 0, .slice none 0 0]) := by show _ = _; unfold onc usN usR usF usC usW; simp [h0]
    have g1 : (t.k == 1) = true := by rw [beq_iff_eq]; omega
    clear h0
    go_enter Tryz.func109, Tryz.ntmps109
    go_wp2_with fail
    exact bodyPost_ret (results_cell_row rfl _ _ _ _ _ _ _ rfl (blk3 w _ _ _) Tryz.underlying69 rfl infoTp) rfl ⟨by rw [HE.out], bel3 w _ _ _⟩
  by_cases h1 : t.k = 2
  · have HE : Hid (onc t (.slice af t.fs.length cf) (.slice ac t.cs.length cc) (.slice aw t.ws.length cw) = #[.string t.n, .int .i64 t.k, .int .i64 t.lo, .int .i64 t.hi, .string ⟨#[]⟩, .bool false, .slice none 0 0, .slice none 0 0, .slice none 0 0]) := by show _ = _; unfold onc usN usR usF usC usW; simp [h1]
    have g1 : (t.k == 1) = false := beq_eq_false_iff_ne.2 (by omega)
    have g2 : (t.k == 2) = true := by rw [beq_iff_eq]; omega
    clear h0 h1
    go_enter Tryz.func109, Tryz.ntmps109
    go_wp2_with fail
    exact bodyPost_ret (results_cell_row rfl _ _ _ _ _ _ _ rfl (blk3 w _ _ _) Tryz.underlying69 rfl infoTp) rfl ⟨by rw [HE.out], bel3 w _ _ _⟩
  by_cases h2 : t.k = 3
  · have HE : Hid (onc t (.slice af t.fs.length cf) (.slice ac t.cs.length cc) (.slice aw t.ws.length cw) = #[.string t.n, .int .i64 t.k, .int .i64 t.lo, .int .i64 t.hi, .string t.r.n, .bool t.r.z, .slice none 0 0, .slice none 0 0, .slice none 0 0]) := by show _ = _; unfold onc usN usR usF usC usW; simp [h2]
    have g1 : (t.k == 1) = false := beq_eq_false_iff_ne.2 (by omega)
    have g2 : (t.k == 2) = false := beq_eq_false_iff_ne.2 (by omega)
    have g3 : (t.k == 3) = true := by rw [beq_iff_eq]; omega
    clear h0 h1 h2
    go_enter Tryz.func109, Tryz.ntmps109
    go_wp2_with fail
    exact bodyPost_ret (results_cell_row rfl _ _ _ _ _ _ _ rfl (blk3 w _ _ _) Tryz.underlying69 rfl infoTp) rfl ⟨by rw [HE.out], bel3 w _ _ _⟩
  by_cases h3 : t.k = 4
  · have HE : Hid (onc t (.slice af t.fs.length cf) (.slice ac t.cs.length cc) (.slice aw t.ws.length cw) = #[.string t.n, .int .i64 t.k, .int .i64 t.lo, .int .i64 t.hi, .string t.r.n, .bool t.r.z, .slice none 0 0, .slice none 0 0, .slice none 0 0]) := by show _ = _; unfold onc usN usR usF usC usW; simp [h3]
    have g1 : (t.k == 1) = false := beq_eq_false_iff_ne.2 (by omega)
    have g2 : (t.k == 2) = false := beq_eq_false_iff_ne.2 (by omega)
    have g3 : (t.k == 3) = false := beq_eq_false_iff_ne.2 (by omega)
    have g4 : (t.k == 4) = true := by rw [beq_iff_eq]; omega
    clear h0 h1 h2 h3
    go_enter Tryz.func109, Tryz.ntmps109
    go_wp2_with fail
    exact bodyPost_ret (results_cell_row rfl _ _ _ _ _ _ _ rfl (blk3 w _ _ _) Tryz.underlying69 rfl infoTp) rfl ⟨by rw [HE.out], bel3 w _ _ _⟩
  by_cases h4 : t.k = 5
  · have HE : Hid (onc t (.slice af t.fs.length cf) (.slice ac t.cs.length cc) (.slice aw t.ws.length cw) = #[.string t.n, .int .i64 t.k, .int .i64 0, .int .i64 0, .string ⟨#[]⟩, .bool false, .slice af t.fs.length cf, .slice none 0 0, .slice none 0 0]) := by show _ = _; unfold onc usN usR usF usC usW; simp [h4]
    have g1 : (t.k == 1) = false := beq_eq_false_iff_ne.2 (by omega)
    have g2 : (t.k == 2) = false := beq_eq_false_iff_ne.2 (by omega)
    have g3 : (t.k == 3) = false := beq_eq_false_iff_ne.2 (by omega)
    have g4 : (t.k == 4) = false := beq_eq_false_iff_ne.2 (by omega)
    have g5 : (t.k == 5) = true := by rw [beq_iff_eq]; omega
    clear h0 h1 h2 h3 h4
    go_enter Tryz.func109, Tryz.ntmps109
    go_wp2_with fail
    exact bodyPost_ret (results_cell_row rfl _ _ _ _ _ _ _ rfl (blk3 w _ _ _) Tryz.underlying69 rfl infoTp) rfl ⟨by rw [HE.out], bel3 w _ _ _⟩
  by_cases h5 : t.k = 6
  · have HE : Hid (onc t (.slice af t.fs.length cf) (.slice ac t.cs.length cc) (.slice aw t.ws.length cw) = #[.string t.n, .int .i64 t.k, .int .i64 0, .int .i64 0, .string ⟨#[]⟩, .bool false, .slice af t.fs.length cf, .slice none 0 0, .slice none 0 0]) := by show _ = _; unfold onc usN usR usF usC usW; simp [h5]
    have g1 : (t.k == 1) = false := beq_eq_false_iff_ne.2 (by omega)
    have g2 : (t.k == 2) = false := beq_eq_false_iff_ne.2 (by omega)
    have g3 : (t.k == 3) = false := beq_eq_false_iff_ne.2 (by omega)
    have g4 : (t.k == 4) = false := beq_eq_false_iff_ne.2 (by omega)
    have g5 : (t.k == 5) = false := beq_eq_false_iff_ne.2 (by omega)
    have g6 : (t.k == 6) = true := by rw [beq_iff_eq]; omega
    clear h0 h1 h2 h3 h4 h5
    go_enter Tryz.func109, Tryz.ntmps109
    go_wp2_with fail
    exact bodyPost_ret (results_cell_row rfl _ _ _ _ _ _ _ rfl (blk3 w _ _ _) Tryz.underlying69 rfl infoTp) rfl ⟨by rw [HE.out], bel3 w _ _ _⟩
  by_cases h6 : t.k = 7
  · have HE : Hid (onc t (.slice af t.fs.length cf) (.slice ac t.cs.length cc) (.slice aw t.ws.length cw) = #[.string t.n, .int .i64 t.k, .int .i64 0, .int .i64 0, .string ⟨#[]⟩, .bool false, .slice none 0 0, .slice ac t.cs.length cc, .slice none 0 0]) := by show _ = _; unfold onc usN usR usF usC usW; simp [h6]
    have g1 : (t.k == 1) = false := beq_eq_false_iff_ne.2 (by omega)
    have g2 : (t.k == 2) = false := beq_eq_false_iff_ne.2 (by omega)
    have g3 : (t.k == 3) = false := beq_eq_false_iff_ne.2 (by omega)
    have g4 : (t.k == 4) = false := beq_eq_false_iff_ne.2 (by omega)
    have g5 : (t.k == 5) = false := beq_eq_false_iff_ne.2 (by omega)
    have g6 : (t.k == 6) = false := beq_eq_false_iff_ne.2 (by omega)
    have g7 : (t.k == 7) = true := by rw [beq_iff_eq]; omega
    clear h0 h1 h2 h3 h4 h5 h6
    go_enter Tryz.func109, Tryz.ntmps109
    go_wp2_with fail
    exact bodyPost_ret (results_cell_row rfl _ _ _ _ _ _ _ rfl (blk3 w _ _ _) Tryz.underlying69 rfl infoTp) rfl ⟨by rw [HE.out], bel3 w _ _ _⟩
  by_cases h7 : t.k = 8
  · have HE : Hid (onc t (.slice af t.fs.length cf) (.slice ac t.cs.length cc) (.slice aw t.ws.length cw) = #[.string t.n, .int .i64 t.k, .int .i64 0, .int .i64 0, .string ⟨#[]⟩, .bool false, .slice none 0 0, .slice ac t.cs.length cc, .slice none 0 0]) := by show _ = _; unfold onc usN usR usF usC usW; simp [h7]
    have g1 : (t.k == 1) = false := beq_eq_false_iff_ne.2 (by omega)
    have g2 : (t.k == 2) = false := beq_eq_false_iff_ne.2 (by omega)
    have g3 : (t.k == 3) = false := beq_eq_false_iff_ne.2 (by omega)
    have g4 : (t.k == 4) = false := beq_eq_false_iff_ne.2 (by omega)
    have g5 : (t.k == 5) = false := beq_eq_false_iff_ne.2 (by omega)
    have g6 : (t.k == 6) = false := beq_eq_false_iff_ne.2 (by omega)
    have g7 : (t.k == 7) = false := beq_eq_false_iff_ne.2 (by omega)
    have g8 : (t.k == 8) = true := by rw [beq_iff_eq]; omega
    clear h0 h1 h2 h3 h4 h5 h6 h7
    go_enter Tryz.func109, Tryz.ntmps109
    go_wp2_with fail
    exact bodyPost_ret (results_cell_row rfl _ _ _ _ _ _ _ rfl (blk3 w _ _ _) Tryz.underlying69 rfl infoTp) rfl ⟨by rw [HE.out], bel3 w _ _ _⟩
  by_cases h8 : t.k = 9
  · have HE : Hid (onc t (.slice af t.fs.length cf) (.slice ac t.cs.length cc) (.slice aw t.ws.length cw) = #[.string t.n, .int .i64 t.k, .int .i64 0, .int .i64 0, .string ⟨#[]⟩, .bool false, .slice none 0 0, .slice none 0 0, .slice aw t.ws.length cw]) := by show _ = _; unfold onc usN usR usF usC usW; simp [h8]
    have g1 : (t.k == 1) = false := beq_eq_false_iff_ne.2 (by omega)
    have g2 : (t.k == 2) = false := beq_eq_false_iff_ne.2 (by omega)
    have g3 : (t.k == 3) = false := beq_eq_false_iff_ne.2 (by omega)
    have g4 : (t.k == 4) = false := beq_eq_false_iff_ne.2 (by omega)
    have g5 : (t.k == 5) = false := beq_eq_false_iff_ne.2 (by omega)
    have g6 : (t.k == 6) = false := beq_eq_false_iff_ne.2 (by omega)
    have g7 : (t.k == 7) = false := beq_eq_false_iff_ne.2 (by omega)
    have g8 : (t.k == 8) = false := beq_eq_false_iff_ne.2 (by omega)
    have g9 : (t.k == 9) = true := by rw [beq_iff_eq]; omega
    clear h0 h1 h2 h3 h4 h5 h6 h7 h8
    go_enter Tryz.func109, Tryz.ntmps109
    go_wp2_with fail
    exact bodyPost_ret (results_cell_row rfl _ _ _ _ _ _ _ rfl (blk3 w _ _ _) Tryz.underlying69 rfl infoTp) rfl ⟨by rw [HE.out], bel3 w _ _ _⟩
  have HE : Hid (onc t (.slice af t.fs.length cf) (.slice ac t.cs.length cc) (.slice aw t.ws.length cw) = #[.string t.n, .int .i64 t.k, .int .i64 0, .int .i64 0, .string ⟨#[]⟩, .bool false, .slice none 0 0, .slice none 0 0, .slice none 0 0]) := by show _ = _; unfold onc usN usR usF usC usW; simp [h0, h1, h2, h3, h4, h5, h6, h7, h8]
  have g1 : (t.k == 1) = false := beq_eq_false_iff_ne.2 (by omega)
  have g2 : (t.k == 2) = false := beq_eq_false_iff_ne.2 (by omega)
  have g3 : (t.k == 3) = false := beq_eq_false_iff_ne.2 (by omega)
  have g4 : (t.k == 4) = false := beq_eq_false_iff_ne.2 (by omega)
  have g5 : (t.k == 5) = false := beq_eq_false_iff_ne.2 (by omega)
  have g6 : (t.k == 6) = false := beq_eq_false_iff_ne.2 (by omega)
  have g7 : (t.k == 7) = false := beq_eq_false_iff_ne.2 (by omega)
  have g8 : (t.k == 8) = false := beq_eq_false_iff_ne.2 (by omega)
  have g9 : (t.k == 9) = false := beq_eq_false_iff_ne.2 (by omega)
  clear h0 h1 h2 h3 h4 h5 h6 h7 h8
  go_enter Tryz.func109, Tryz.ntmps109
  go_wp2_with fail
  exact bodyPost_ret (results_cell_row rfl _ _ _ _ _ _ _ rfl (blk3 w _ _ _) Tryz.underlying69 rfl infoTp) rfl ⟨by rw [HE.out], bel3 w _ _ _⟩
end
section
open Go.RowKit Go
theorem eqrf (w : World) (s t : ByteArray) (x y : Bool) : (Op.equalIn 10000 65 (.agg #[.string s, .bool x]) (.agg #[.string t, .bool y])).run Tryz.prog w = .ok (decide (s = t) && (x == y)) w := by
  have u4 := Tryz.underlying4
  have u9 := Tryz.underlying9
  have a4 := Tryz.isAgg4
  have a9 := Tryz.isAgg9
  have z4 := Tryz.sizeOf4
  have z9 := Tryz.sizeOf9
  have hS : Tryz.prog.underlying 65 = some (.struct (Tryz.prog.fieldsOf 65)) := by kernel_rfl
  have hp : Tryz.prog.stoodInHeld 65 = false := by kernel_rfl
  have hs := strB s t
  rw [show (10000 : Nat) = 9999 + 1 from rfl, run_equalIn_agg w 9999 65 _ _ hS hp]
  simp only [Program.fieldsOf, Tryz.underlying65]
  go_simp
  by_cases h : s = t <;> cases x <;> cases y <;> simp [h]
theorem eqgR : Tryz.prog.eqGuardType Tryz.prog.depth 65 = false := by kernel_rfl
theorem wpList_eqrf {ops : Array Oper} {rest : List Oper} {o : Oper} {a : Act} {Q : Exit → Act → World → Prop} {w : World} {x y : Operand} {T2 : TypeId} (hgd : Region.wanted o (yielded ops a.tmps) = true) (ho : o.op = .binOp .eql 65 x y T2) (s t : ByteArray) (p q : Bool) (r : Bool)
    (hx : a.eval x = .agg #[.string s, .bool p]) (hy : a.eval y = .agg #[.string t, .bool q]) (hr : (decide (s = t) && (p == q)) = r) (h : wpList Tryz.prog ops Q rest (a.put o.dst (.bool r)) w) : wpList Tryz.prog ops Q (o :: rest) a w := by
  refine wpList_ex hgd ?_ h
  unfold execOp
  simp only [ho, Sem.run_bind, hx, hy, run_eqGuard_agg w _ 65 x y _ _ eqgR, run_eql_struct, eqrf w s t p q, hr, Result.andThen_ok]
  rfl
def len11 (t : Tp) : Bool := (usN t.k || decide (t.lo = 0)) && ((usN t.k || decide (t.hi = 0)) && ((usR t.k || (decide (t.r.n = ⟨#[]⟩) && (t.r.z == false))) && ((usF t.k || decide (t.fs.length = 0)) && ((usC t.k || decide (t.cs.length = 0)) && (usW t.k || decide (t.ws.length = 0))))))
theorem slice_if (b : Bool) (a : Option Addr) (n c : Nat) : ∃ a1 n1 c1, (if b then Value.slice a n c else .slice none 0 0) = .slice a1 n1 c1 ∧ decide (n = n1) = (b || decide (n = 0)) := by
  cases b
  · exact ⟨none, 0, 0, rfl, by simp⟩
  · exact ⟨a, n, c, rfl, by simp⟩
set_option maxRecDepth 1000000 in
set_option maxHeartbeats 2000000 in
theorem lean11_any (w : World) (t : Tp) (af ac aw : Option Addr) (cf cc cw : Nat) : Calls Tryz.prog 57 #[.agg #[.string t.n, .int .i64 t.k, .int .i64 t.lo, .int .i64 t.hi, .string t.r.n, .bool t.r.z, .slice af t.fs.length cf, .slice ac t.cs.length cc, .slice aw t.ws.length cw]] w fun e w' => e = .returned (.bool (len11 t)) ∧ Below w.heap.size w w' := by
  have h1 : decide (t.lo = if usN t.k then t.lo else 0) = (usN t.k || decide (t.lo = 0)) := by cases usN t.k <;> simp
  have h2 : decide (t.hi = if usN t.k then t.hi else 0) = (usN t.k || decide (t.hi = 0)) := by cases usN t.k <;> simp
  have h3 : (decide (t.r.n = if usR t.k then t.r.n else ⟨#[]⟩) && (t.r.z == (if usR t.k then t.r.z else false))) = (usR t.k || (decide (t.r.n = ⟨#[]⟩) && (t.r.z == false))) := by cases usR t.k <;> simp
  obtain ⟨a1, n1, c1, e4, h4⟩ := slice_if (usF t.k) af t.fs.length cf
  obtain ⟨a2, n2, c2, e5, h5⟩ := slice_if (usC t.k) ac t.cs.length cc
  obtain ⟨a3, n3, c3, e6, h6⟩ := slice_if (usW t.k) aw t.ws.length cw
  have HON := hide (only11_any (w.alloc (.cells #[.string t.n, .int .i64 t.k, .int .i64 t.lo, .int .i64 t.hi, .string t.r.n, .bool t.r.z, .slice af t.fs.length cf, .slice ac t.cs.length cc, .slice aw t.ws.length cw] 69)) t af ac aw cf cc cw)
  unfold onc at HON
  rw [e4, e5, e6] at HON
  have HLE : Hid (len11 t = (decide (t.lo = if usN t.k then t.lo else 0) && (decide (t.hi = if usN t.k then t.hi else 0) && ((decide (t.r.n = if usR t.k then t.r.n else ⟨#[]⟩) && (t.r.z == (if usR t.k then t.r.z else false))) && (decide (t.fs.length = n1) && (decide (t.cs.length = n2) && decide (t.ws.length = n3))))))) := by show _ = _; rw [h1, h2, h3, h4, h5, h6]; rfl
  generalize (if usN t.k then t.lo else 0) = L2 at *
  generalize (if usN t.k then t.hi else 0) = H2 at *
  generalize (if usR t.k then t.r.n else (⟨#[]⟩ : ByteArray)) = RN at *
  generalize (if usR t.k then t.r.z else false) = RZ at *
  clear h1 h2 h3 h4 h5 h6 e4 e5 e6
  have HB0 := hide (below_alloc4 w (.cells #[.string t.n, .int .i64 t.k, .int .i64 t.lo, .int .i64 t.hi, .string t.r.n, .bool t.r.z, .slice af t.fs.length cf, .slice ac t.cs.length cc, .slice aw t.ws.length cw] 69))
  have HT : Hid ((w.alloc (.cells #[.string t.n, .int .i64 t.k, .int .i64 t.lo, .int .i64 t.hi, .string t.r.n, .bool t.r.z, .slice af t.fs.length cf, .slice ac t.cs.length cc, .slice aw t.ws.length cw] 69)).heap[w.heap.size]? = some (.cells #[.string t.n, .int .i64 t.k, .int .i64 t.lo, .int .i64 t.hi, .string t.r.n, .bool t.r.z, .slice af t.fs.length cf, .slice ac t.cs.length cc, .slice aw t.ws.length cw] 69 (0, 0))) := heap_alloc_new w _
  have HIT := hide infoTp
  have HAT : Hid (∀ w, (isAgg 69).run Tryz.prog w = .ok true w) := aggTp
  go_enter Tryz.func57, Tryz.ntmps57
  go_upto_region 1 with fail
  generalize w.alloc (.cells #[.string t.n, .int .i64 t.k, .int .i64 t.lo, .int .i64 t.hi, .string t.r.n, .bool t.r.z, .slice af t.fs.length cf, .slice ac t.cs.length cc, .slice aw t.ws.length cw] 69) = w0 at *
  have HCL : Hid (∀ j u, (#[.string t.n, .int .i64 t.k, .int .i64 t.lo, .int .i64 t.hi, .string t.r.n, .bool t.r.z, .slice af t.fs.length cf, .slice ac t.cs.length cc, .slice aw t.ws.length cw] : Array Value)[j]? = some u → w0.cell? ⟨w.heap.size, 0 + j, none⟩ = some u) := fun j u hj => by rw [Nat.zero_add]; exact blk_cell HT.out hj
  go_upto_region 2 with (first
    | (refine wpList_aggAt rfl rfl HIT.out HAT.out w.heap.size 0 #[.string t.n, .int .i64 t.k, .int .i64 t.lo, .int .i64 t.hi, .string t.r.n, .bool t.r.z, .slice af t.fs.length cf, .slice ac t.cs.length cc, .slice aw t.ws.length cw] rfl rfl HCL.out ?_)
    | (go_at_call 109; refine HON.out.mono ?_; rintro e w1 ⟨rfl, hb1⟩))
  have HT2 : Hid ((w1.alloc (.cells #[.string t.n, .int .i64 t.k, .int .i64 L2, .int .i64 H2, .string RN, .bool RZ, .slice a1 n1 c1, .slice a2 n2 c2, .slice a3 n3 c3] 69)).heap[w.heap.size]? = some (.cells #[.string t.n, .int .i64 t.k, .int .i64 t.lo, .int .i64 t.hi, .string t.r.n, .bool t.r.z, .slice af t.fs.length cf, .slice ac t.cs.length cc, .slice aw t.ws.length cw] 69 (0, 0))) := blk_alloc _ ((hb1.block _ (blk_lt HT.out)).trans HT.out)
  have HY2 : Hid ((w1.alloc (.cells #[.string t.n, .int .i64 t.k, .int .i64 L2, .int .i64 H2, .string RN, .bool RZ, .slice a1 n1 c1, .slice a2 n2 c2, .slice a3 n3 c3] 69)).heap[w1.heap.size]? = some (.cells #[.string t.n, .int .i64 t.k, .int .i64 L2, .int .i64 H2, .string RN, .bool RZ, .slice a1 n1 c1, .slice a2 n2 c2, .slice a3 n3 c3] 69 (0, 0))) := heap_alloc_new w1 _
  have HB2 : Hid (Below w.heap.size w (w1.alloc (.cells #[.string t.n, .int .i64 t.k, .int .i64 L2, .int .i64 H2, .string RN, .bool RZ, .slice a1 n1 c1, .slice a2 n2 c2, .slice a3 n3 c3] 69))) := (HB0.out.trans (hb1.mono HB0.out.size)).trans ((below_alloc4 w1 _).mono (HB0.out.trans (hb1.mono HB0.out.size)).size)
  clear hb1 HT HB0 HCL HON
  generalize w1.alloc (.cells #[.string t.n, .int .i64 t.k, .int .i64 L2, .int .i64 H2, .string RN, .bool RZ, .slice a1 n1 c1, .slice a2 n2 c2, .slice a3 n3 c3] 69) = w2 at *
  have x2 : w2.cell? ⟨w.heap.size, 2, none⟩ = some (.int .i64 t.lo) := blk_cell (j := 2) HT2.out rfl
  have x3 : w2.cell? ⟨w.heap.size, 3, none⟩ = some (.int .i64 t.hi) := blk_cell (j := 3) HT2.out rfl
  have x4 : w2.cell? ⟨w.heap.size, 4, none⟩ = some (.string t.r.n) := blk_cell (j := 4) HT2.out rfl
  have x5 : w2.cell? ⟨w.heap.size, 5, none⟩ = some (.bool t.r.z) := blk_cell (j := 5) HT2.out rfl
  have x6 : w2.cell? ⟨w.heap.size, 6, none⟩ = some (.slice af t.fs.length cf) := blk_cell (j := 6) HT2.out rfl
  have x7 : w2.cell? ⟨w.heap.size, 7, none⟩ = some (.slice ac t.cs.length cc) := blk_cell (j := 7) HT2.out rfl
  have x8 : w2.cell? ⟨w.heap.size, 8, none⟩ = some (.slice aw t.ws.length cw) := blk_cell (j := 8) HT2.out rfl
  have y2 : w2.cell? ⟨w1.heap.size, 2, none⟩ = some (.int .i64 L2) := blk_cell (j := 2) HY2.out rfl
  have y3 : w2.cell? ⟨w1.heap.size, 3, none⟩ = some (.int .i64 H2) := blk_cell (j := 3) HY2.out rfl
  have y4 : w2.cell? ⟨w1.heap.size, 4, none⟩ = some (.string RN) := blk_cell (j := 4) HY2.out rfl
  have y5 : w2.cell? ⟨w1.heap.size, 5, none⟩ = some (.bool RZ) := blk_cell (j := 5) HY2.out rfl
  have y6 : w2.cell? ⟨w1.heap.size, 6, none⟩ = some (.slice a1 n1 c1) := blk_cell (j := 6) HY2.out rfl
  have y7 : w2.cell? ⟨w1.heap.size, 7, none⟩ = some (.slice a2 n2 c2) := blk_cell (j := 7) HY2.out rfl
  have y8 : w2.cell? ⟨w1.heap.size, 8, none⟩ = some (.slice a3 n3 c3) := blk_cell (j := 8) HY2.out rfl
  clear HT2 HY2
  obtain ⟨b3, hb3⟩ : ∃ b, (decide (t.r.n = RN) && (t.r.z == RZ)) = b := ⟨_, rfl⟩
  have HG3 := hide hb3
  rw [hb3] at HLE
  clear hb3
  go_cut [4] from 5 to 53 (fun a wx => a = .bool (decide (t.lo = L2) && (decide (t.hi = H2) && b3)) ∧ wx = w2)
  case first =>
    by_cases z0 : t.lo = L2
    case neg => as_aux_lemma =>
      have g1 : (t.lo == L2) = false := beq_eq_false_iff_ne.2 z0
      have HZ := hide (decide_eq_false z0)
      clear z0
      go_wp2_with fail
      go_meet
      exact ⟨by rw [HZ.out]; rfl, rfl⟩
    have g1 : (t.lo == L2) = true := by rw [beq_iff_eq]; exact z0
    have HZ0 := hide (decide_eq_true z0)
    clear z0
    by_cases z1 : t.hi = H2
    case neg => as_aux_lemma =>
      have g2 : (t.hi == H2) = false := beq_eq_false_iff_ne.2 z1
      have HZ := hide (decide_eq_false z1)
      clear z1
      go_wp2_with fail
      go_meet
      exact ⟨by rw [HZ0.out, HZ.out]; rfl, rfl⟩
    have g2 : (t.hi == H2) = true := by rw [beq_iff_eq]; exact z1
    have HZ1 := hide (decide_eq_true z1)
    clear z1
    as_aux_lemma =>
      go_wp2_with (with_reducible refine wpList_eqrf (w := w2) rfl rfl t.r.n RN t.r.z RZ b3 rfl rfl HG3.out ?_)
      go_meet
      exact ⟨by rw [HZ0.out, HZ1.out]; rfl, rfl⟩
  case rest =>
    obtain ⟨rfl, hww⟩ := hcut
    have hww := hww.symm
    subst hww
    rw [show (decide (t.lo = L2) && (decide (t.hi = H2) && (b3 && (decide (t.fs.length = n1) && (decide (t.cs.length = n2) && decide (t.ws.length = n3)))))) = ((decide (t.lo = L2) && (decide (t.hi = H2) && b3)) && (decide (t.fs.length = n1) && (decide (t.cs.length = n2) && decide (t.ws.length = n3)))) by simp only [Bool.and_assoc]] at HLE
    generalize (decide (t.lo = L2) && (decide (t.hi = H2) && b3)) = B at *
    clear x2 x3 x4 x5 y2 y3 y4 y5 HG3
    cases B
    · have HE : Hid (len11 t = false) := by show _ = _; rw [HLE.out]; rfl
      go_wp2_with fail
      go_ret
      exact ⟨by rw [HE.out]; rfl, HB2.out⟩
    by_cases z3 : t.fs.length = n1
    case neg =>
      have g4 : (((t.fs.length : Nat) : Int) == ((n1 : Nat) : Int)) = false := beq_eq_false_iff_ne.2 (by omega)
      have HE : Hid (len11 t = false) := by show _ = _; rw [HLE.out, decide_eq_false z3]; rfl
      clear HLE z3
      go_wp2_with fail
      go_ret
      exact ⟨by rw [HE.out]; rfl, HB2.out⟩
    have g4 : (((t.fs.length : Nat) : Int) == ((n1 : Nat) : Int)) = true := by rw [beq_iff_eq]; omega
    by_cases z4 : t.cs.length = n2
    case neg =>
      have g5 : (((t.cs.length : Nat) : Int) == ((n2 : Nat) : Int)) = false := beq_eq_false_iff_ne.2 (by omega)
      have HE : Hid (len11 t = false) := by show _ = _; rw [HLE.out, decide_eq_false z4, Bool.false_and, Bool.and_false, Bool.and_false]
      clear HLE z3 z4
      go_wp2_with fail
      go_ret
      exact ⟨by rw [HE.out]; rfl, HB2.out⟩
    have g5 : (((t.cs.length : Nat) : Int) == ((n2 : Nat) : Int)) = true := by rw [beq_iff_eq]; omega
    by_cases z5 : t.ws.length = n3
    case neg =>
      have g6 : (((t.ws.length : Nat) : Int) == ((n3 : Nat) : Int)) = false := beq_eq_false_iff_ne.2 (by omega)
      have HE : Hid (len11 t = false) := by show _ = _; rw [HLE.out, decide_eq_false z5, Bool.and_false, Bool.and_false, Bool.and_false]
      clear HLE z3 z4 z5
      go_wp2_with fail
      go_ret
      exact ⟨by rw [HE.out]; rfl, HB2.out⟩
    have g6 : (((t.ws.length : Nat) : Int) == ((n3 : Nat) : Int)) = true := by rw [beq_iff_eq]; omega
    have HE : Hid (len11 t = true) := by show _ = _; rw [HLE.out, decide_eq_true z3, decide_eq_true z4, decide_eq_true z5]; rfl
    clear HLE z3 z4 z5
    go_wp2_with fail
    go_ret
    exact ⟨by rw [HE.out]; rfl, HB2.out⟩
end
section
open Go.RowKit Go
theorem eqfd (w : World) (f : Fd) : (Op.equalIn 10000 104 (.agg (fdc f)) (.agg (fdc f))).run Tryz.prog w = .ok true w := by
  have u4 := Tryz.underlying4
  have u9 := Tryz.underlying9
  have a4 := Tryz.isAgg4
  have a9 := Tryz.isAgg9
  have z4 := Tryz.sizeOf4
  have z9 := Tryz.sizeOf9
  have hS : Tryz.prog.underlying 104 = some (.struct (Tryz.prog.fieldsOf 104)) := by kernel_rfl
  have hp : Tryz.prog.stoodInHeld 104 = false := by kernel_rfl
  have hS2 : Tryz.prog.underlying 65 = some (.struct (Tryz.prog.fieldsOf 65)) := by kernel_rfl
  have hp2 : Tryz.prog.stoodInHeld 65 = false := by kernel_rfl
  have e1 := str_yes f.n
  have e2 := str_yes f.k
  have e3 := str_yes f.r.n
  have hR : ∀ w, (Op.equalIn 9999 65 (.agg #[.string f.r.n, .bool f.r.z]) (.agg #[.string f.r.n, .bool f.r.z])).run Tryz.prog w = .ok true w := fun w => by
    rw [show (9999 : Nat) = 9998 + 1 from rfl, run_equalIn_agg w 9998 65 _ _ hS2 hp2]
    simp only [Program.fieldsOf, Tryz.underlying65]
    go_simp
  unfold fdc
  rw [show (10000 : Nat) = 9999 + 1 from rfl, run_equalIn_agg w 9999 104 _ _ hS hp]
  simp only [Program.fieldsOf, Tryz.underlying104]
  go_simp
theorem eqgF : Tryz.prog.eqGuardType Tryz.prog.depth 104 = false := by kernel_rfl
theorem eqcz (w : World) (c : Cz) : (Op.equalIn 10000 114 (.agg (czc c)) (.agg (czc c))).run Tryz.prog w = .ok true w := by
  have u9 := Tryz.underlying9
  have a9 := Tryz.isAgg9
  have z9 := Tryz.sizeOf9
  have hS : Tryz.prog.underlying 114 = some (.struct (Tryz.prog.fieldsOf 114)) := by kernel_rfl
  have hp : Tryz.prog.stoodInHeld 114 = false := by kernel_rfl
  have e1 := str_yes c.n
  have e2 := str_yes c.k
  unfold czc
  rw [show (10000 : Nat) = 9999 + 1 from rfl, run_equalIn_agg w 9999 114 _ _ hS hp]
  simp only [Program.fieldsOf, Tryz.underlying114]
  go_simp
theorem eqgC : Tryz.prog.eqGuardType Tryz.prog.depth 114 = false := by kernel_rfl
theorem exec_neG {T : TypeId} (hg : Tryz.prog.eqGuardType Tryz.prog.depth T = false) {o : Oper} {a : Act} {x y : Operand} {T2 : TypeId} {A : Array Value} {w : World} (ho : o.op = .binOp .neq T x y T2) (hx : a.eval x = .agg A) (hy : a.eval y = .agg A) (he : (Op.equalIn 10000 T (.agg A) (.agg A)).run Tryz.prog w = .ok true w) : (execOp a.eval o).run Tryz.prog w = .ok (.value (.bool false)) w := by
  unfold execOp
  simp only [ho, Sem.run_bind, hx, hy, run_eqGuard_agg w _ T x y A A hg, run_neq_struct, he, Result.andThen_ok]
  rfl
theorem qstep_ex11 {C : World → Prop} {ops : Array Oper} {o : Oper} {a : Act} {K : Act → Prop} (hgd : Region.wanted o (yielded ops a.tmps) = true) (v : Value) (hx : ∀ w, C w → (execOp a.eval o).run Tryz.prog w = .ok (.value v) w)
    (h : K (a.put o.dst v)) : if Region.wanted o (yielded ops a.tmps) = true then o.quiet Tryz.prog a C K else K (a.put o.dst undef) := by
  rw [if_pos hgd]
  refine ⟨v, fun w hC => ?_, h⟩
  unfold Oper.quietAt
  rw [hx w hC]
  exact ⟨rfl, rfl⟩
theorem Lgs.at {T k : Nat} {mk : Array Value} {w : World} {base g cap : Nat} {L : List (Array Value)} (ho : w.ownsRow base T k (.slice (some ⟨g, 0, none⟩) (L.length + 9) cap) (L.length + 9) (gfl (L ++ List.replicate 9 mk))) (hs : ∀ c ∈ L ++ List.replicate 9 mk, c.size = k) : (∀ (i : Nat) (c : Array Value), L[i]? = some c → ∀ j u, c[j]? = some u → w.cell? ⟨g, i * k + j, none⟩ = some u) ∧ (∀ i, i < 9 → ∀ j u, mk[j]? = some u → w.cell? ⟨g, (L.length + i) * k + j, none⟩ = some u) ∧ L.length + 9 ≤ cap := by
  have h9 : (L ++ List.replicate 9 mk).length = L.length + 9 := by simp
  rw [← h9] at ho
  refine ⟨fun i c hi j u hu => ?_, fun i hi j u hu => ?_, ?_⟩
  · have := own_elt ho hs (i := i) (c := c) (by rw [List.getElem?_append_left (List.getElem?_eq_some_iff.1 hi).1]; exact hi) j u hu
    rw [Nat.zero_add] at this
    exact this
  · have := own_elt ho hs (i := L.length + i) (c := mk) (by rw [List.getElem?_append_right (by omega), Nat.add_sub_cancel_left, List.getElem?_replicate_of_lt hi]) j u hu
    rw [Nat.zero_add] at this
    exact this
  · rcases ho.2 with ⟨hv, _⟩ | ⟨g', cap', cur, hv, _, _, h1, _⟩
    · cases hv
    · injection hv with _ _ e
      subst e
      omega
end
section
open Go.RowKit Go
set_option maxRecDepth 1000000 in
set_option maxHeartbeats 2000000 in
theorem toldC_any {w : World} {base B : Nat} {C : Array Value} {vbC voC vbF voF : Value} {esC esF : List Ent} {t : Nat} (hB : w.heap[B]? = some (.cells C 47 (0, 0))) (hJ0 : C[24]? = some vbC) (hJ1 : C[25]? = some voC) (hF0 : C[27]? = some vbF) (hF1 : C[28]? = some voF) (hz1 : C[18]? = some (.slice none 0 0)) (hz2 : C[21]? = some (.slice none 0 0)) (hK : Kc KC w base vbC voC esC t) (hL : Kc KF w base vbF voF esF t) (ht : t < 68719476736) :
    Calls Tryz.prog 73 #[.pointer (some ⟨B, 0, none⟩)] w fun e w' => e = .returned (.bool true) ∧ Below w.heap.size w w' := by
  obtain ⟨abC, capbC, hvbC, -, hxbC, -⟩ := own_form hK.hb
  obtain ⟨abF, capbF, hvbF, -, hxbF, -⟩ := own_form hL.hb
  have HKC := hide hK
  have HKF := hide hL
  have HTT := hide ht
  have HC0C := hide (blk_cell hB hJ0)
  have HC1C := hide (blk_cell hB hJ1)
  have HC0F := hide (blk_cell hB hF0)
  have HC1F := hide (blk_cell hB hF1)
  have z1 := blk_cell hB hz1
  have z2 := blk_cell hB hz2
  rw [hvbC] at HC0C
  rw [hvbF] at HC0F
  clear hB hJ0 hJ1 hF0 hF1 hz1 hz2 hK hL ht
  go_enter Tryz.func73, Tryz.ntmps73
  go_wp2
  iterate 2
    refine wp_loop_rounds 1 ?_
    rw [rounds_succ]
    go_wp2
  clear z1 z2
  go_loopw [7] (fun i wr => ∃ k : Nat, k ≤ esC.length ∧ i = .int .i64 k ∧ Hid (Below w.heap.size w wr)) (fun i _ => esC.length - (intOf i).toNat)
  case atStart => exact ⟨0, Nat.zero_le _, rfl, Below.refl _ _⟩
  case round =>
    obtain ⟨k, hk, rfl, HBw⟩ := hrel
    have c0 : wr.cell? ⟨B, 24, none⟩ = some (.slice abC esC.length capbC) := keep_below HBw.out _ _ HC0C.out
    by_cases hlt : k < esC.length
    · have hlt' : (k : Int) < (esC.length : Int) := by omega
      obtain ⟨abC', capbC', ao, capo, gb, go, av, capv, en, em, hvb2, hvo, hab, hao, hem, hen, hb1, ho1, hcv⟩ := HKC.out.at (fun _ _ => rfl) hlt
      rw [hvbC] at hvb2
      injection hvb2 with e1 _ e3
      subst e1
      subst e3
      subst hab
      subst hao
      have HC1C' : Hid (w.cell? ⟨B, 25, none⟩ = some (.slice (some ⟨go, 0, none⟩) esC.length capo)) := by have := HC1C.out; rw [hvo] at this; exact this
      have HB1 := hide hb1
      have HO1 := hide ho1
      have HCV := hide hcv
      have HEM : Hid (em < 68719476736) := by have := HTT.out; show _ < _; omega
      have cb1 := keep_below HBw.out _ _ hb1
      have hen' : (en : Int) < 68719477000 := by omega
      clear hcv hb1 ho1 hvo hem
      obtain ⟨wo, rfl⟩ : ∃ x, wr = x := ⟨wr, rfl⟩
      go_wp2
      go_loopw [8] (fun j wr' => ∃ q : Nat, q ≤ en ∧ j = .int .i64 q ∧ Hid (Below w.heap.size w wr')) (fun j _ => en - (intOf j).toNat)
      case atStart => exact ⟨0, Nat.zero_le _, rfl, HBw⟩
      case round =>
        obtain ⟨q, hq, rfl, HB2⟩ := hrel
        clear c0 cb1
        have c0 : wr.cell? ⟨B, 24, none⟩ = some (.slice (some ⟨gb, 0, none⟩) esC.length capbC) := keep_below HB2.out _ _ HC0C.out
        have cb1 := keep_below HB2.out _ _ HB1.out
        by_cases hql : q < en
        · as_aux_lemma =>
          have hql' : (q : Int) < (en : Int) := by omega
          obtain ⟨gv, hav, hcq⟩ := HCV.out q hql
          subst hav
          have HCQ : Hid (∀ j u, (cma em)[j]? = some u → w.cell? ⟨gv, q * 2 + j, none⟩ = some u) := fun j u hu => hcq j u (get_lt hu) (by show (cma em).toList[j]? = some u; simpa using hu)
          have HMK := hide (fun W => casesMark_any (em : Int) W (by omega) (by have h1 := HEM.out; omega))
          clear hcq
          go_wp2_with fail
          refine heldStart (S := fun wy => Below w.heap.size w wy) (by kernel_rfl) ?_
          have hS : Below w.heap.size w wr.drew := by refine Below.drew ?_; exact HB2.out
          clear HB2 c0 cb1
          generalize wr.drew = w4 at *
          refine heldTake 0 _ rfl (by kernel_rfl) (by kernel_rfl) (by kernel_rfl) (fun _ _ _ h => h) rfl hS (fun wy hy => by first | (go_simp; done) | (go_simp; rfl) | rfl) ?_
          (try simp only [Act.put]); (try simp only [LsA, Ls0, LsS])
          refine heldTake 1 _ rfl (by kernel_rfl) (by kernel_rfl) (by kernel_rfl) (fun _ _ _ h => h) rfl hS (fun wy hy => by first | (go_simp; done) | (go_simp; rfl) | rfl) ?_
          (try simp only [Act.put]); (try simp only [LsA, Ls0, LsS])
          refine heldTake 2 _ rfl (by kernel_rfl) (by kernel_rfl) (by kernel_rfl) (fun _ _ _ h => h) rfl hS (fun wy hy => by first | (go_simp; done) | (go_simp; rfl) | rfl) ?_
          (try simp only [Act.put]); (try simp only [LsA, Ls0, LsS])
          refine heldTake 3 _ rfl (by kernel_rfl) (by kernel_rfl) (by kernel_rfl) (fun _ _ _ h => h) rfl hS (fun wy hy => by have h0 := keep_below hy _ _ HC0C.out; first | (go_simp; done) | (go_simp; rfl) | rfl) ?_
          (try simp only [Act.put]); (try simp only [LsA, Ls0, LsS])
          refine heldTake 4 _ rfl (by kernel_rfl) (by kernel_rfl) (by kernel_rfl) (fun _ _ _ h => h) rfl hS (fun wy hy => by first | (go_simp; done) | (go_simp; rfl) | rfl) ?_
          (try simp only [Act.put]); (try simp only [LsA, Ls0, LsS])
          refine heldTake 5 _ rfl (by kernel_rfl) (by kernel_rfl) (by kernel_rfl) (fun _ _ _ h => h) rfl hS (fun wy hy => by first | (go_simp; done) | (go_simp; rfl) | rfl) ?_
          (try simp only [Act.put]); (try simp only [LsA, Ls0, LsS])
          refine heldTake 6 _ rfl (by kernel_rfl) (by kernel_rfl) (by kernel_rfl) (fun _ _ _ h => h) rfl hS (fun wy hy => by have h0 := keep_below hy _ _ HB1.out; first | (go_simp; done) | (go_simp; rfl) | rfl) ?_
          (try simp only [Act.put]); (try simp only [LsA, Ls0, LsS])
          refine heldTake 7 _ rfl (by kernel_rfl) (by kernel_rfl) (by kernel_rfl) (fun _ _ _ h => h) rfl hS (fun wy hy => by first | (go_simp; done) | (go_simp; rfl) | rfl) ?_
          (try simp only [Act.put]); (try simp only [LsA, Ls0, LsS])
          refine heldTake 8 _ rfl (by kernel_rfl) (by kernel_rfl) (by kernel_rfl) (fun _ _ _ h => h) rfl hS (fun wy hy => by first | (go_simp; done) | (go_simp; rfl) | rfl) ?_
          (try simp only [Act.put]); (try simp only [LsA, Ls0, LsS])
          refine heldTake 9 _ rfl (by kernel_rfl) (by kernel_rfl) (by kernel_rfl) (fun _ _ _ h => h) rfl hS (fun wy hy => exec_aggAt (g := gv) (off := q * 2) (cs := cma em) infoCz aggCz rfl rfl rfl (fun j u hu => keep_below hy _ _ (HCQ.out j u hu))) ?_
          (try simp only [Act.put]); (try simp only [LsA, Ls0, LsS])
          refine heldTake 10 _ rfl (by kernel_rfl) (by kernel_rfl) (by kernel_rfl) (fun _ _ _ h => h) rfl hS (fun wy hy => by first | (go_simp; done) | (go_simp; rfl) | rfl) ?_
          (try simp only [Act.put]); (try simp only [LsA, Ls0, LsS])
          refine heldTake 11 _ rfl (by kernel_rfl) (by kernel_rfl) (by kernel_rfl) (fun _ _ _ h => h) rfl hS (fun wy hy => by first | (go_simp; done) | (go_simp; rfl) | rfl) ?_
          (try simp only [Act.put]); (try simp only [LsA, Ls0, LsS])
          refine heldTake 12 _ rfl (by kernel_rfl) (by kernel_rfl) (by kernel_rfl) (fun _ _ _ h => h) rfl hS (fun wy hy => by first | (go_simp; done) | (go_simp; rfl) | rfl) ?_
          (try simp only [Act.put]); (try simp only [LsA, Ls0, LsS])
          refine heldTake 13 _ rfl (by kernel_rfl) (by kernel_rfl) (by kernel_rfl) (fun _ _ _ h => h) rfl hS (fun wy hy => by have h0 := keep_below hy _ _ HC1C'.out; first | (go_simp; done) | (go_simp; rfl) | rfl) ?_
          (try simp only [Act.put]); (try simp only [LsA, Ls0, LsS])
          refine heldTake 14 _ rfl (by kernel_rfl) (by kernel_rfl) (by kernel_rfl) (fun _ _ _ h => h) rfl hS (fun wy hy => by first | (go_simp; done) | (go_simp; rfl) | rfl) ?_
          (try simp only [Act.put]); (try simp only [LsA, Ls0, LsS])
          refine heldTake 15 _ rfl (by kernel_rfl) (by kernel_rfl) (by kernel_rfl) (fun _ _ _ h => h) rfl hS (fun wy hy => by first | (go_simp; done) | (go_simp; rfl) | rfl) ?_
          (try simp only [Act.put]); (try simp only [LsA, Ls0, LsS])
          refine heldTake 16 _ rfl (by kernel_rfl) (by kernel_rfl) (by kernel_rfl) (fun _ _ _ h => h) rfl hS (fun wy hy => by have h0 := keep_below hy _ _ HO1.out; first | (go_simp; done) | (go_simp; rfl) | rfl) ?_
          (try simp only [Act.put]); (try simp only [LsA, Ls0, LsS])
          refine heldStep 17 rfl (by kernel_rfl) (fun K hK => ?_)
          go_simp
          refine (HMK.out _).mono ?_
          rintro e w5 ⟨rfl, hb5⟩
          rw [Int.toNat_natCast]
          refine (Hid.out hK) _ _ (hS.trans (hb5.mono hS.size)) (fun hS2 => ?_)
          clear hK K hS
          have hS := hS2
          clear hS2
          (try simp only [Act.put]); (try simp only [LsA, Ls0, LsS])
          refine heldTake 18 (.bool false) rfl (by kernel_rfl) (by kernel_rfl) (by kernel_rfl) (fun _ _ _ h => h) rfl hS (fun wy hy => exec_neG eqgC rfl (A := cma em) rfl rfl (eqcz wy ⟨⟨#[109, 97, 114, 107]⟩, tm2 em⟩)) ?_
          (try simp only [Act.put]); (try simp only [LsA, Ls0, LsS])
          refine heldDone (by kernel_rfl) ?_
          have HB5 : Hid (Below w.heap.size w w5) := hS
          clear hS hb5
          go_wp2_with fail
          go_roundw
          case rel => exact ⟨q + 1, by omega, by go_num, HB5⟩
          case measure => simp [intOf]; omega
        · have hql' : ¬ (q : Int) < (en : Int) := by omega
          go_wp2
          go_roundw
          case rel => exact ⟨k + 1, by omega, by go_num, HB2⟩
          case measure => simp [intOf]; omega
    · have hlt' : ¬ (k : Int) < (esC.length : Int) := by omega
      have HBY := HBw
      go_wp2
      clear c0 hlt'
      go_loopw [9] (fun i wr => ∃ k : Nat, k ≤ esF.length ∧ i = .int .i64 k ∧ Hid (Below w.heap.size w wr)) (fun i _ => esF.length - (intOf i).toNat)
      case atStart => exact ⟨0, Nat.zero_le _, rfl, HBY⟩
      case round =>
        obtain ⟨k, hk, rfl, HBw⟩ := hrel
        have c0 : wr.cell? ⟨B, 27, none⟩ = some (.slice abF esF.length capbF) := keep_below HBw.out _ _ HC0F.out
        by_cases hlt : k < esF.length
        · have hlt' : (k : Int) < (esF.length : Int) := by omega
          obtain ⟨abF', capbF', ao, capo, gb, go, av, capv, en, em, hvb2, hvo, hab, hao, hem, hen, hb1, ho1, hcv⟩ := HKF.out.at (fun _ _ => rfl) hlt
          rw [hvbF] at hvb2
          injection hvb2 with e1 _ e3
          subst e1
          subst e3
          subst hab
          subst hao
          have HC1F' : Hid (w.cell? ⟨B, 28, none⟩ = some (.slice (some ⟨go, 0, none⟩) esF.length capo)) := by have := HC1F.out; rw [hvo] at this; exact this
          have HB1 := hide hb1
          have HO1 := hide ho1
          have HCV := hide hcv
          have HEM : Hid (em < 68719476736) := by have := HTT.out; show _ < _; omega
          have cb1 := keep_below HBw.out _ _ hb1
          have hen' : (en : Int) < 68719477000 := by omega
          clear hcv hb1 ho1 hvo hem
          obtain ⟨wo, rfl⟩ : ∃ x, wr = x := ⟨wr, rfl⟩
          go_wp2
          go_loopw [10] (fun j wr' => ∃ q : Nat, q ≤ en ∧ j = .int .i64 q ∧ Hid (Below w.heap.size w wr')) (fun j _ => en - (intOf j).toNat)
          case atStart => exact ⟨0, Nat.zero_le _, rfl, HBw⟩
          case round =>
            obtain ⟨q, hq, rfl, HB2⟩ := hrel
            clear c0 cb1
            have c0 : wr.cell? ⟨B, 27, none⟩ = some (.slice (some ⟨gb, 0, none⟩) esF.length capbF) := keep_below HB2.out _ _ HC0F.out
            have cb1 := keep_below HB2.out _ _ HB1.out
            by_cases hql : q < en
            · as_aux_lemma =>
              have hql' : (q : Int) < (en : Int) := by omega
              obtain ⟨gv, hav, hcq⟩ := HCV.out q hql
              subst hav
              have HCQ : Hid (∀ j u, (fma em)[j]? = some u → w.cell? ⟨gv, q * 5 + j, none⟩ = some u) := fun j u hu => hcq j u (get_lt hu) (by show (fma em).toList[j]? = some u; simpa using hu)
              have HMK := hide (fun W => fieldsMark_any (em : Int) W (by omega) (by have h1 := HEM.out; omega))
              clear hcq
              go_wp2_with fail
              refine heldStart (S := fun wy => Below w.heap.size w wy) (by kernel_rfl) ?_
              have hS : Below w.heap.size w wr.drew := by refine Below.drew ?_; exact HB2.out
              clear HB2 c0 cb1
              generalize wr.drew = w4 at *
              refine heldTake 0 _ rfl (by kernel_rfl) (by kernel_rfl) (by kernel_rfl) (fun _ _ _ h => h) rfl hS (fun wy hy => by first | (go_simp; done) | (go_simp; rfl) | rfl) ?_
              (try simp only [Act.put]); (try simp only [LsA, Ls0, LsS])
              refine heldTake 1 _ rfl (by kernel_rfl) (by kernel_rfl) (by kernel_rfl) (fun _ _ _ h => h) rfl hS (fun wy hy => by first | (go_simp; done) | (go_simp; rfl) | rfl) ?_
              (try simp only [Act.put]); (try simp only [LsA, Ls0, LsS])
              refine heldTake 2 _ rfl (by kernel_rfl) (by kernel_rfl) (by kernel_rfl) (fun _ _ _ h => h) rfl hS (fun wy hy => by first | (go_simp; done) | (go_simp; rfl) | rfl) ?_
              (try simp only [Act.put]); (try simp only [LsA, Ls0, LsS])
              refine heldTake 3 _ rfl (by kernel_rfl) (by kernel_rfl) (by kernel_rfl) (fun _ _ _ h => h) rfl hS (fun wy hy => by have h0 := keep_below hy _ _ HC0F.out; first | (go_simp; done) | (go_simp; rfl) | rfl) ?_
              (try simp only [Act.put]); (try simp only [LsA, Ls0, LsS])
              refine heldTake 4 _ rfl (by kernel_rfl) (by kernel_rfl) (by kernel_rfl) (fun _ _ _ h => h) rfl hS (fun wy hy => by first | (go_simp; done) | (go_simp; rfl) | rfl) ?_
              (try simp only [Act.put]); (try simp only [LsA, Ls0, LsS])
              refine heldTake 5 _ rfl (by kernel_rfl) (by kernel_rfl) (by kernel_rfl) (fun _ _ _ h => h) rfl hS (fun wy hy => by first | (go_simp; done) | (go_simp; rfl) | rfl) ?_
              (try simp only [Act.put]); (try simp only [LsA, Ls0, LsS])
              refine heldTake 6 _ rfl (by kernel_rfl) (by kernel_rfl) (by kernel_rfl) (fun _ _ _ h => h) rfl hS (fun wy hy => by have h0 := keep_below hy _ _ HB1.out; first | (go_simp; done) | (go_simp; rfl) | rfl) ?_
              (try simp only [Act.put]); (try simp only [LsA, Ls0, LsS])
              refine heldTake 7 _ rfl (by kernel_rfl) (by kernel_rfl) (by kernel_rfl) (fun _ _ _ h => h) rfl hS (fun wy hy => by first | (go_simp; done) | (go_simp; rfl) | rfl) ?_
              (try simp only [Act.put]); (try simp only [LsA, Ls0, LsS])
              refine heldTake 8 _ rfl (by kernel_rfl) (by kernel_rfl) (by kernel_rfl) (fun _ _ _ h => h) rfl hS (fun wy hy => by first | (go_simp; done) | (go_simp; rfl) | rfl) ?_
              (try simp only [Act.put]); (try simp only [LsA, Ls0, LsS])
              refine heldTake 9 _ rfl (by kernel_rfl) (by kernel_rfl) (by kernel_rfl) (fun _ _ _ h => h) rfl hS (fun wy hy => exec_aggAt (g := gv) (off := q * 5) (cs := fma em) infoFd aggFd rfl rfl rfl (fun j u hu => keep_below hy _ _ (HCQ.out j u hu))) ?_
              (try simp only [Act.put]); (try simp only [LsA, Ls0, LsS])
              refine heldTake 10 _ rfl (by kernel_rfl) (by kernel_rfl) (by kernel_rfl) (fun _ _ _ h => h) rfl hS (fun wy hy => by first | (go_simp; done) | (go_simp; rfl) | rfl) ?_
              (try simp only [Act.put]); (try simp only [LsA, Ls0, LsS])
              refine heldTake 11 _ rfl (by kernel_rfl) (by kernel_rfl) (by kernel_rfl) (fun _ _ _ h => h) rfl hS (fun wy hy => by first | (go_simp; done) | (go_simp; rfl) | rfl) ?_
              (try simp only [Act.put]); (try simp only [LsA, Ls0, LsS])
              refine heldTake 12 _ rfl (by kernel_rfl) (by kernel_rfl) (by kernel_rfl) (fun _ _ _ h => h) rfl hS (fun wy hy => by first | (go_simp; done) | (go_simp; rfl) | rfl) ?_
              (try simp only [Act.put]); (try simp only [LsA, Ls0, LsS])
              refine heldTake 13 _ rfl (by kernel_rfl) (by kernel_rfl) (by kernel_rfl) (fun _ _ _ h => h) rfl hS (fun wy hy => by have h0 := keep_below hy _ _ HC1F'.out; first | (go_simp; done) | (go_simp; rfl) | rfl) ?_
              (try simp only [Act.put]); (try simp only [LsA, Ls0, LsS])
              refine heldTake 14 _ rfl (by kernel_rfl) (by kernel_rfl) (by kernel_rfl) (fun _ _ _ h => h) rfl hS (fun wy hy => by first | (go_simp; done) | (go_simp; rfl) | rfl) ?_
              (try simp only [Act.put]); (try simp only [LsA, Ls0, LsS])
              refine heldTake 15 _ rfl (by kernel_rfl) (by kernel_rfl) (by kernel_rfl) (fun _ _ _ h => h) rfl hS (fun wy hy => by first | (go_simp; done) | (go_simp; rfl) | rfl) ?_
              (try simp only [Act.put]); (try simp only [LsA, Ls0, LsS])
              refine heldTake 16 _ rfl (by kernel_rfl) (by kernel_rfl) (by kernel_rfl) (fun _ _ _ h => h) rfl hS (fun wy hy => by have h0 := keep_below hy _ _ HO1.out; first | (go_simp; done) | (go_simp; rfl) | rfl) ?_
              (try simp only [Act.put]); (try simp only [LsA, Ls0, LsS])
              refine heldStep 17 rfl (by kernel_rfl) (fun K hK => ?_)
              go_simp
              refine (HMK.out _).mono ?_
              rintro e w5 ⟨rfl, hb5⟩
              rw [Int.toNat_natCast]
              refine (Hid.out hK) _ _ (hS.trans (hb5.mono hS.size)) (fun hS2 => ?_)
              clear hK K hS
              have hS := hS2
              clear hS2
              (try simp only [Act.put]); (try simp only [LsA, Ls0, LsS])
              refine heldTake 18 (.bool false) rfl (by kernel_rfl) (by kernel_rfl) (by kernel_rfl) (fun _ _ _ h => h) rfl hS (fun wy hy => exec_neG eqgF rfl (A := fma em) rfl rfl (eqfd wy ⟨⟨#[109, 97, 114, 107]⟩, tm2 em, ⟨⟨#[]⟩, false⟩, false⟩)) ?_
              (try simp only [Act.put]); (try simp only [LsA, Ls0, LsS])
              refine heldDone (by kernel_rfl) ?_
              have HB5 : Hid (Below w.heap.size w w5) := hS
              clear hS hb5
              go_wp2_with fail
              go_roundw
              case rel => exact ⟨q + 1, by omega, by go_num, HB5⟩
              case measure => simp [intOf]; omega
            · have hql' : ¬ (q : Int) < (en : Int) := by omega
              go_wp2
              go_roundw
              case rel => exact ⟨k + 1, by omega, by go_num, HB2⟩
              case measure => simp [intOf]; omega
        · have hlt' : ¬ (k : Int) < (esF.length : Int) := by omega
          go_wp2
          go_ret
          exact ⟨rfl, HBw.out⟩
end
end Go.Proofs.YtbbalhfjgpaabaaGreatDoor
