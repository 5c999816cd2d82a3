import Derived.Test.YtnkghcndaafmoaaGreatDoorJqag
import Derived.Test.YtnkghcndaafmoaaGreatDoorJqq
import Derived.Test.YtnkghcndaafmoaaGreatDoorJqac
import Derived.Laws.EntriesVeiled
namespace Go.Proofs.YtnkghcndaafmoaaGreatDoor
section
open Go.RowKit Go.Lib Go
def lxl : List Nat → List Nat → Bool
  | _, [] => false
  | [], _ :: _ => true
  | x :: r, y :: q => if x = y then lxl r q else decide (x < y)
theorem lxl_self : ∀ x, lxl x x = false
  | [] => rfl
  | x :: r => by rw [lxl, if_pos rfl, lxl_self r]
theorem lxl_tr : ∀ x y z, lxl x y = true → lxl y z = true → lxl x z = true
  | _, [], _, h, _ => by simp [lxl] at h
  | _, _ :: _, [], _, h => by simp [lxl] at h
  | [], _ :: _, _ :: _, _, _ => rfl
  | x :: r, y :: q, z :: p, h1, h2 => by
    simp only [lxl] at h1 h2 ⊢
    by_cases e1 : x = y
    · subst e1
      rw [if_pos rfl] at h1
      by_cases e2 : x = z
      · subst e2
        rw [if_pos rfl] at h2 ⊢
        exact lxl_tr r q p h1 h2
      · rw [if_neg e2] at h2 ⊢
        exact h2
    · rw [if_neg e1] at h1
      by_cases e2 : y = z
      · subst e2
        rw [if_neg e1]
        exact h1
      · rw [if_neg e2] at h2
        have h3 := of_decide_eq_true h1
        have h4 := of_decide_eq_true h2
        rw [if_neg (by omega)]
        exact decide_eq_true (by omega)
theorem lxl_nt : ∀ x y z, lxl x y = false → lxl y z = false → lxl x z = false
  | x, _, [], _, _ => by cases x <;> rfl
  | [], [], _ :: _, _, h => by simp [lxl] at h
  | [], _ :: _, _ :: _, h, _ => by simp [lxl] at h
  | _ :: _, [], _ :: _, _, h => by simp [lxl] at h
  | x :: r, y :: q, z :: p, h1, h2 => by
    simp only [lxl] at h1 h2 ⊢
    by_cases e1 : x = y
    · subst e1
      rw [if_pos rfl] at h1
      by_cases e2 : x = z
      · subst e2
        rw [if_pos rfl] at h2 ⊢
        exact lxl_nt r q p h1 h2
      · rw [if_neg e2] at h2 ⊢
        exact h2
    · rw [if_neg e1] at h1
      by_cases e2 : y = z
      · subst e2
        rw [if_neg e1]
        exact h1
      · rw [if_neg e2] at h2
        have h3 := of_decide_eq_false h1
        have h4 := of_decide_eq_false h2
        rw [if_neg (by omega)]
        exact decide_eq_false (by omega)
theorem blt_lxl : ∀ (x y : List Nat), (∀ r, x ++ r = y → r = []) → blt x y = lxl x y
  | [], [], _ => rfl
  | [], y :: q, h => by have := h (y :: q) rfl; cases this
  | x :: r, [], _ => rfl
  | x :: r, y :: q, h => by
    simp only [blt, lxl]
    by_cases e : x = y
    · subst e
      rw [if_pos rfl, if_pos rfl]
      exact blt_lxl r q (fun s hs => h s (by rw [List.cons_append, hs]))
    · rw [if_neg e, if_neg e]
def lkt (a b : Lk) : Bool := lxl (lbytes a) (lbytes b)
theorem lkt_swo : Sort.SWO lkt where
  irrefl _ := lxl_self _
  trans _ _ _ h1 h2 := lxl_tr _ _ _ h1 h2
  ntrans _ _ _ h1 h2 := lxl_nt _ _ _ h1 h2
theorem llt_lkt {a b : Lk} (ha : lok a) (hb : lok b) : llt a b = lkt a b := by
  unfold llt lrow lkt
  rw [decide_eq_true ha, decide_eq_true hb, if_pos ha, if_pos hb, blt_lxl _ _ (fun r hr => (lbytes_free ha hb hr).2)]
  rfl
section
variable {w0 : World} {blk lx n c : Nat}
theorem LkS.srf (hbk : blk < w0.heap.size) (hlx : lx < w0.heap.size) {gs : FuncId} {sb : Array Value} (hsw : ∀ (w : World) (d : Array Lk) (i j : Nat), LkS w0 blk lx n c w d → i < n → j < n → ∃ w', (callFunc gs (#[.int .i64 (i : Nat), .int .i64 (j : Nat)] ++ sb)).run Tryz.prog w = .ok (.value (.tuple #[])) w' ∧ LkS w0 blk lx n c w' (Sort.swp d i j) ∧ Kp (fun q => q < w0.heap.size) w w') : Srf 73 gs #[.pointer (some ⟨lx, 0, none⟩)] sb lkt w0.heap.size (LkS w0 blk lx n c) where
  el := enters_of Tryz.func73 (by kernel_rfl) rfl
  low h := h.k.size
  keep h hb := h.keep hbk hlx hb
  less {w d} i j h hi hj := by
    rw [h.s] at hi hj
    have h1 := links1_any w lx blk n c (fun i => d[i]!) h.b h.cells (fun i hi => (h.g i hi).1) i j hi hj
    rw [← llt_lkt (h.g i hi).2 (h.g j hj).2]
    exact h1
  swap i j h hi hj := hsw _ _ i j h (by rw [← h.s]; exact hi) (by rw [← h.s]; exact hj)
theorem LkS.swap9 (hbk : blk < w0.heap.size) (hne : lx ≠ blk) (w : World) (d : Array Lk) (i j : Nat) (h : LkS w0 blk lx n c w d) (hi : i < n) (hj : j < n) : ∃ w', (callFunc 194 (#[.int .i64 (i : Nat), .int .i64 (j : Nat)] ++ #[.slice (some ⟨blk, 0, none⟩) n c, typeHandle Tryz.prog 41])).run Tryz.prog w = .ok (.value (.tuple #[])) w' ∧ LkS w0 blk lx n c w' (Sort.swp d i j) ∧ Kp (fun q => q < w0.heap.size) w w' := by
  obtain ⟨ie, hie, -, -, hz⟩ := infoLkE
  obtain ⟨hs, hk⟩ := h.swap hne i j hi hj
  refine ⟨_, ?_, hs, hk.mono (fun q _ e => by rw [e]; exact hbk)⟩
  obtain ⟨cur, h1, -, -⟩ := h.r
  have hr := run_swap_cells (P := Tryz.prog) false 41 ie hie (fun w => by
    unfold isAgg
    rw [Sem.run_bind, run_underlying Tryz.underlying41 w]
    simp) blk 0 n c i j hi hj (lcs d[i]!).toList (lcs d[j]!).toList (by rw [hz]; rfl) (by rw [hz]; rfl) (lcs_one _) (lcs_one _) w
    (fun k v hv => by rw [hz, Nat.zero_add]; exact h.cells i hi k v (by simpa using hv)) (fun k v hv => by rw [hz, Nat.zero_add]; exact h.cells j hj k v (by simpa using hv))
    (fun k _ => blk_frozen _ h1) (fun k _ => blk_frozen _ h1)
  rw [hz, Nat.zero_add, Nat.zero_add] at hr
  rw [run_callFunc_extern Tryz.func194 (by kernel_rfl) (by kernel_rfl) (by kernel_rfl) (e := Extern.ReflectliteSwapper.swap false) (by kernel_rfl)]
  show (Sem.run Tryz.prog (Extern.ReflectliteSwapper.swap false #[.int .i64 (i : Nat), .int .i64 (j : Nat), .slice (some ⟨blk, 0, none⟩) n c, typeHandle Tryz.prog 41]) w).andThen _ = _
  rw [hr]
  rfl
theorem LkS.swap2 (w : World) (d : Array Lk) (i j : Nat) (h : LkS w0 blk lx 1 c w d) (hi : i < 1) (hj : j < 1) : ∃ w', (callFunc 187 (#[.int .i64 (i : Nat), .int .i64 (j : Nat)] ++ #[])).run Tryz.prog w = .ok (.value (.tuple #[])) w' ∧ LkS w0 blk lx 1 c w' (Sort.swp d i j) ∧ Kp (fun q => q < w0.heap.size) w w' := by
  obtain rfl : i = 0 := by omega
  obtain rfl : j = 0 := by omega
  refine ⟨w, ?_, ?_, Kp.refl _ _⟩
  · rw [run_callFunc_extern Tryz.func187 (by kernel_rfl) (by kernel_rfl) (by kernel_rfl) (e := fun | #[.int .i64 0, .int .i64 0] => pure (.tuple #[]) | _ => Extern.ReflectliteSwapper.outOfRange) (by kernel_rfl)]
    rfl
  · have hd : Sort.swp d 0 0 = d := by
      have hs := h.s
      apply Array.ext
      · simp [Sort.swp]
      · intro k h1 h2
        obtain rfl : k = 0 := by omega
        simp [Sort.swp, getElem!_pos, hs]
    rw [hd]
    exact h
end
end
section
open Go.RowKit Go
theorem lfl_get {ls : List Lk} {i k : Nat} {u : Value} {l : Lk} (hl : ls[i]? = some l) (hu : (lcs l)[k]? = some u) : (lfl ls)[i * 4 + k]? = some u :=
  gfl_get (n := 4) (fun c hc => by obtain ⟨x, _, rfl⟩ := List.mem_map.1 hc; rfl) i (lcs l) k u (by rw [List.getElem?_map, hl]; rfl) hu
theorem lfl_len (ls : List Lk) : (lfl ls).length = ls.length * 4 := by
  unfold lfl
  rw [gfl_len (k := 4) (fun c hc => by obtain ⟨x, _, rfl⟩ := List.mem_map.1 hc; rfl), List.length_map]
theorem lfl_ext {cur : Array Value} {ls : List Lk} (hs : ls.length * 4 ≤ cur.size) (h : ∀ i l, ls[i]? = some l → ∀ k u, (lcs l)[k]? = some u → cur[i * 4 + k]? = some u) : cur.toList.take (ls.length * 4) = lfl ls := by
  apply List.ext_getElem?
  intro q
  by_cases hq : q < ls.length * 4
  · obtain ⟨l, hl⟩ : ∃ l, ls[q / 4]? = some l := ⟨ls[q / 4]'(by omega), List.getElem?_eq_getElem (by omega)⟩
    obtain ⟨u, hu⟩ : ∃ u, (lcs l)[q % 4]? = some u := ⟨(lcs l)[q % 4]'(by rw [lcs_size]; omega), Array.getElem?_eq_getElem (by rw [lcs_size]; omega)⟩
    have e : q = q / 4 * 4 + q % 4 := by omega
    have h1 := h _ _ hl _ _ hu
    have h2 := lfl_get hl hu
    rw [← e] at h1 h2
    rw [h2, List.getElem?_take, if_pos hq]
    simpa using h1
  · rw [List.getElem?_eq_none (by simp; omega), List.getElem?_eq_none (by rw [lfl_len]; omega)]
theorem toArr_at {ls : List Lk} {i : Nat} {l : Lk} (h : ls[i]? = some l) : ls.toArray[i]! = l := by
  obtain ⟨hi, rfl⟩ := List.getElem?_eq_some_iff.1 h
  simp [getElem!_pos, hi]
theorem at_toList {d : Array Lk} {i : Nat} (hi : i < d.size) : d.toList[i]? = some d[i]! := by
  rw [Array.getElem?_toList, getElem!_pos d i hi]
  simp [hi]
theorem lks_of {w : World} {base n c blk lx : Nat} {ss : List Lk} (ho : w.ownsRow base 41 4 (.slice (some ⟨blk, 0, none⟩) n c) ss.length (lfl ss)) (hb : w.heap[lx]? = some (.cells #[.slice (some ⟨blk, 0, none⟩) n c] 45 (0, 0))) (hn : n = ss.length) (h0 : 0 < n) (hg : ∀ l ∈ ss, Lkb l ∧ lok l) : LkS w blk lx n c w ss.toArray := by
  rcases ho.2 with ⟨e, h⟩ | ⟨g, cap, cur, e, _, h1, h2, h3, h4, h5⟩
  · omega
  · injection e with e1 e2 e3
    injection e1 with e1
    injection e1 with e1
    subst e1 e3
    refine ⟨⟨cur, h1, h4, fun i hi k u hu => ?_⟩, by omega, hb, Kp.refl _ _, by simp [hn], fun i hi => ?_⟩
    · obtain ⟨l, hl⟩ : ∃ l, ss[i]? = some l := ⟨ss[i]'(by omega), List.getElem?_eq_getElem (by omega)⟩
      rw [toArr_at hl] at hu
      have h6 := lfl_get hl hu
      rw [← h5, List.getElem?_take] at h6
      split at h6
      · simpa using h6
      · cases h6
    · obtain ⟨l, hl⟩ : ∃ l, ss[i]? = some l := ⟨ss[i]'(by omega), List.getElem?_eq_getElem (by omega)⟩
      rw [toArr_at hl]
      exact hg l (List.mem_of_getElem? hl)
theorem LkS.own {w0 w : World} {base n c blk lx : Nat} {d : Array Lk} (h : LkS w0 blk lx n c w d) (hb : base ≤ blk) (hc : c ≤ maxLen) : w.ownsRow base 41 4 (.slice (some ⟨blk, 0, none⟩) n c) d.toList.length (lfl d.toList) := by
  obtain ⟨⟨cur, h1, h2, h3⟩, hnc, -, -, hs, -⟩ := h
  have hl : d.toList.length = n := by simp [hs]
  refine ⟨lfl_len _, .inr ⟨blk, c, cur, by rw [hl], hb, h1, by omega, hc, h2, lfl_ext (by omega) (fun i l hi k u hu => ?_)⟩⟩
  have hin : i < n := by
    have := (List.getElem?_eq_some_iff.1 hi).1
    omega
  rw [at_toList (by omega)] at hi
  injection hi with hi
  exact h3 i hin k u (by rw [hi]; exact hu)
end
section
open Go.RowKit Go.Lib Go
theorem bang_toList (d : Array Lk) (i : Nat) : d.toList[i]! = d[i]! := by
  simp only [getElem!_def, Array.getElem?_toList]
def LsP (base : Nat) (a : Option Addr) (n cap : Nat) (ss : List Lk) (w1 : World) (e : Ending) (w' : World) : Prop :=
  e = .returned (.tuple #[]) ∧ ∃ ss' : List Lk, ss'.length = n ∧ ss'.Perm ss ∧ (∀ i j, i < j → j < n → lkt ss'[j]! ss'[i]! = false) ∧ w'.ownsRow base 41 4 (.slice a n cap) ss'.length (lfl ss') ∧ w'.heap[w1.heap.size]? = some (.cells #[.slice a n cap] 45 (0, 0)) ∧ Kp (fun q => base ≤ q) w1 w'
theorem srf_none (w0 : World) (lb : Array Value) : Srf 73 186 lb #[] lkt w0.heap.size (fun w (d : Array Lk) => d.size = 0 ∧ Below w0.heap.size w0 w) where
  el := enters_of Tryz.func73 (by kernel_rfl) rfl
  low h := h.2.size
  keep h hb := ⟨h.1, h.2.trans hb⟩
  less i j h hi _ := by have := h.1; omega
  swap i j h hi _ := by have := h.1; omega
theorem linksSort_any (w1 : World) (base : Nat) (a : Option Addr) (n cap : Nat) (ss : List Lk) (ho : w1.ownsRow base 41 4 (.slice a n cap) ss.length (lfl ss)) (hn : n = ss.length) (hs : ss.length ≤ 1000000) (hg : ∀ l ∈ ss, Lkb l ∧ lok l) :
    Calls Tryz.prog 72 #[.iface 45 (.slice a n cap), .func (.func 73) #[] #[.pointer (some ⟨w1.heap.size, 0, none⟩)]] (w1.alloc (.cells #[.slice a n cap] 45)) (LsP base a n cap ss w1) := by
  obtain ⟨w2, hw2⟩ : ∃ w2, w2 = w1.alloc (.cells #[.slice a n cap] 45) := ⟨_, rfl⟩
  have hb12 : Below w1.heap.size w1 w2 := by rw [hw2]; exact below_alloc4 w1 _
  have hbx : w2.heap[w1.heap.size]? = some (.cells #[.slice a n cap] 45 (0, 0)) := by rw [hw2]; exact heap_alloc_new w1 _
  have ho2 := (Kp.of_below (S := fun _ => False) hb12).owns ho (fun _ _ h => h)
  have hlx := blk_lt hbx
  rw [← hw2]
  clear hw2
  have hd : ss.toArray.size = n := by simp [hn]
  by_cases h0 : n = 0
  · have hss : ss = [] := List.length_eq_zero_iff.1 (by omega)
    subst hss
    subst h0
    have h1 := slice9_any (srf_none w2 #[.pointer (some ⟨w1.heap.size, 0, none⟩)]) lkt_swo (w := w2) (d := #[]) ⟨rfl, Below.refl _ _⟩ a cap (by decide) (.inl ⟨rfl, rfl, rfl⟩)
    refine h1.mono ?_
    rintro e w' ⟨rfl, h2⟩
    obtain ⟨d', ⟨h3, h4⟩, -⟩ := h2.out
    exact ⟨rfl, [], rfl, List.Perm.refl _, fun i j _ hj => by omega, (Kp.of_below (S := fun _ => False) h4).owns ho2 (fun _ _ h => h), (h4.block _ hlx).trans hbx, ((Kp.of_below (S := fun q => base ≤ q) hb12).trans (Kp.of_below (S := fun _ => False) h4) (fun _ _ h => h.elim))⟩
  · obtain ⟨a', cap', hv, hf⟩ := own_formG ho
    obtain ⟨blk, hblk⟩ := hf (by omega)
    injection hv with e1 e2 e3
    subst e1
    subst hblk
    have hlt := ho.lt blk rfl
    have hcap : cap ≤ maxLen := by
      rcases ho.2 with ⟨e, _⟩ | ⟨g, cp, cur, e, _, _, _, h3, _⟩
      · cases e
      · injection e with _ _ e3
        rw [e3]
        exact h3
    have hk := lks_of (lx := w1.heap.size) ho2 hbx hn (by omega) hg
    have hbk : blk < w2.heap.size := Nat.lt_of_lt_of_le hlt.2 hb12.size
    have hne : w1.heap.size ≠ blk := by omega
    have hfin : ∀ e w', (e = .returned (.tuple #[]) ∧ Hid (∃ d', LkS w2 blk w1.heap.size n cap w' d' ∧ Srd lkt ss.toArray d')) → LsP base (some ⟨blk, 0, none⟩) n cap ss w1 e w' := by
      rintro e w' ⟨rfl, h2⟩
      obtain ⟨d', h3, h4, h5, h6⟩ := h2.out
      have hs' : d'.size = n := h3.s
      refine ⟨rfl, d'.toList, by simp [hs'], by simpa using h5, fun i j hij hj => ?_, h3.own hlt.1 hcap, h3.b, (Kp.of_below (S := fun q => base ≤ q) hb12).trans h3.k (fun k _ e => by rw [e]; exact hlt.1)⟩
      have h7 := h6 i j (Nat.zero_le _) hij (by rw [hd]; exact hj)
      rw [bang_toList, bang_toList]
      exact h7
    have hsz : ss.toArray.size < 4611686018427387904 := by rw [hd]; omega
    by_cases h1 : n = 1
    · have hM := LkS.srf (n := n) (c := cap) hbk hlx (gs := 187) (sb := #[]) (fun w d i j h hi hj => by
        subst h1
        exact h.swap2 w d i j hi hj)
      have h2 := slice9_any hM lkt_swo (w := w2) (d := ss.toArray) hk (some ⟨blk, 0, none⟩) cap hsz (.inr (.inl ⟨by rw [hd]; exact h1, rfl, rfl⟩))
      rw [hd] at h2
      exact h2.mono fun e w' h => hfin e w' h
    · have hM := LkS.srf (n := n) (c := cap) hbk hlx (fun w d i j h hi hj => LkS.swap9 hbk hne w d i j h hi hj)
      have h2 := slice9_any hM lkt_swo (w := w2) (d := ss.toArray) hk (some ⟨blk, 0, none⟩) cap hsz (.inr (.inr ⟨by rw [hd]; omega, rfl, by rw [hd]⟩))
      rw [hd] at h2
      exact h2.mono fun e w' h => hfin e w' h
end
section
open Go.RowKit Go
structure LinP (w : World) (g B r : Nat) (L : List Blk) (e : Ending) (w' : World) : Prop where
  e : ∃ (a : Option Addr) (cap : Nat) (ss : List Lk), e = .returned (.slice a L.length cap) ∧ ss.length = L.length ∧ ss.Perm (L.map (·.1)) ∧ (∀ i j, i < j → j < L.length → lkt ss[j]! ss[i]! = false) ∧ w'.ownsRow w.heap.size 41 4 (.slice a L.length cap) ss.length (lfl ss)
  s : Sto w' g B r L
  k : Kp (fun q => q = g) w w'
set_option maxRecDepth 1000000 in
set_option maxHeartbeats 1000000 in
theorem links13_any (w : World) (g B r : Nat) (L : List Blk) (hS : Sto w g B r L) (hok : ∀ p ∈ L, lok p.1) : Calls Tryz.prog 33 #[.pointer (some ⟨g, 0, none⟩)] w (LinP w g B r L) := by
  have hmf : ∀ (fn : Fn) (first cap : Array Value) (w : World), (Instr.makeFunc fn first cap).run Tryz.prog w = .ok (.func fn first cap) w := fun _ _ _ _ => rfl
  have HU := hide (unsorted13_any w g B r L hS)
  have HG := hide (blk_lt hS.c)
  have HBL := hide hS.m.lt
  have HOK := hide hok
  have HLN : Hid (L.length ≤ 65536) := by have h1 := hS.n; have h2 := hS.h; show _ ≤ _; omega
  clear hS hok
  go_enter Tryz.func33, Tryz.ntmps33
  go_wp2_with fail
  refine HU.out.mono ?_
  rintro e w1 ⟨⟨v, ss, rfl, hp, ho⟩, hs1, hk1⟩
  obtain ⟨a, cap, hv, -⟩ := own_formG ho
  subst hv
  have hln : ss.length = L.length := by rw [hp.length_eq, List.length_map]
  have hgd : ∀ l ∈ ss, Lkb l ∧ lok l := fun l hl => by
    obtain ⟨p, h1, rfl⟩ := List.mem_map.1 (hp.mem_iff.1 hl)
    exact ⟨(hs1.m.ok p h1).l.toLkb, HOK.out p h1⟩
  have HL := hide (linksSort_any w1 w.heap.size a ss.length cap ss ho rfl (by have := HLN.out; omega) hgd)
  have HS1 := hide hs1
  have HK1 := hide hk1
  have HP := hide hp
  have HN := hide hln
  have hbx := heap_alloc_new w1 (.cells #[.slice a ss.length cap] 45)
  have c0 := blk_cell (j := 0) (v := .slice a ss.length cap) hbx rfl
  clear hs1 hk1 hp hln ho hgd HU hbx
  go_upto_region 2 with fail
  generalize w1.alloc (.cells #[.slice a ss.length cap] 45) = w2 at *
  go_wp2_with fail
  refine HL.out.mono ?_
  rintro e w3 ⟨rfl, ss', h1, h2, h3, h4, h5, h6⟩
  have HR : Hid (LinP w g B r L (.returned (.slice a ss.length cap)) w3) := by
    have e1 := HN.out
    rw [e1] at h1 h3 h4
    rw [e1]
    have hgw := HG.out
    have hbw := HBL.out
    have hz := HK1.out.size
    exact ⟨⟨a, cap, ss', rfl, h1, h2.trans HP.out, h3, h4⟩, ⟨(h6.block g (by omega) (by omega)).trans HS1.out.c, HS1.out.m.block (h6.block B (by omega) (by omega)), HS1.out.h, HS1.out.n⟩, HK1.out.trans h6 (fun k hk e => by omega)⟩
  have c3 := blk_cell (j := 0) (v := .slice a ss.length cap) h5 rfl
  clear h1 h2 h3 h4 h5 h6 HL HS1 HK1 HP HN c0
  go_wp2_with fail
  go_ret
  exact HR.out
end
end Go.Proofs.YtnkghcndaafmoaaGreatDoor
