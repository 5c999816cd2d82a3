import Derived.Test.YtbogamcoheajmaaDoorJf
import Derived.Test.YtbogamcoheajmaaDoorJc
import Derived.Laws.Rows
import Derived.Lib.SlBytesConst
import Derived.Laws.MakeOwn
import Derived.Test.YtbogamcoheajmaaDoorJa
import Derived.ProofKit
import Derived.OpenShut
import Derived.SizedLaws
import Derived.Deep.Matrix
import Derived.LaidLaws
import Derived.Handed
import Derived.Lib.LaidTab
namespace Go.Proofs.YtbogamcoheajmaaDoor
section
open Go.RowKit Go
/-! ### Get -/
/-- What Get answers. -/
def getr13 (L : List Blk) (l : Lk) : List Nat × Nat :=
  if lok l then if l.h = 0 then (l.d, 0) else
    match atB L l with
    | none => ([], 136)
    | some b => if dholds l.h l.d b then (b, 0) else ([], 137)
  else ([], 132)
structure GetP (w : World) (g B r : Nat) (L : List Blk) (l : Lk) (e : Ending) (w' : World) : Prop where
  e : ∃ v, e = .returned (.tuple #[v, .int .i64 ((getr13 L l).2 : Nat)]) ∧ BSl w' v (getr13 L l).1 ∧ ∀ q, v.ownBlock = some q → w.heap.size ≤ q
  s : Sto w' g B r L
  k : Kp (fun q => q = g) w w'
theorem GetP.no {w w' : World} {g B r : Nat} {L : List Blk} {l : Lk} {er : Nat} (h : getr13 L l = ([], er)) (hs : Sto w' g B r L) (hk : Kp (fun q => q = g) w w') : GetP w g B r L l (.returned (.tuple #[.slice none 0 0, .int .i64 (er : Nat)])) w' := ⟨⟨.slice none 0 0, by rw [h], by rw [h]; exact ⟨⟨none, 0, rfl, ⟨Nat.le_refl _, fun _ => rfl⟩, .inl rfl⟩, by simp, by simp⟩, fun q hq => by simp [Value.ownBlock] at hq⟩, hs, hk⟩
set_option maxRecDepth 1000000 in
set_option maxHeartbeats 1000000 in
theorem get13_any (w : World) (g B r : Nat) (L : List Blk) (hS : Sto w g B r L) (l : Lk) (hl : Lkx l) (hcb : ∀ wy, Kp (fun q => q = g) w wy → Cb wy) : Calls Tryd.prog 16 #[.pointer (some ⟨g, 0, none⟩), lkv l] w (GetP w g B r L l) := by
  have HS := hide hS
  have HL := hide hl
  have HCB := hide hcb
  have HT : Hid ((w.alloc (.cells #[.int .i64 l.v, .int .u64 (l.c : Nat), .int .u64 (l.h : Nat), .string (nstr l.d)] 29)).heap[w.heap.size]? = some (.cells (lcs l) 29 (0, 0))) := heap_alloc_new w _
  have HB0 := hide (below_alloc4 w (.cells #[.int .i64 l.v, .int .u64 (l.c : Nat), .int .u64 (l.h : Nat), .string (nstr l.d)] 29))
  have hnot : ∀ (x : Bool) (w : World), (Op.unary .not (.bool x)).run Tryd.prog w = .ok (.bool (!x)) w := fun _ _ => rfl
  clear hS hl hcb
  simp only [lkv]
  go_enter Tryd.func16, Tryd.ntmps16
  go_upto_region 1 with fail
  generalize w.alloc (.cells #[.int .i64 l.v, .int .u64 (l.c : Nat), .int .u64 (l.h : Nat), .string (nstr l.d)] 29) = w0 at *
  have d0 : w0.cell? ⟨w.heap.size, 0, none⟩ = some (.int .i64 l.v) := blk_cell (j := 0) HT.out rfl
  have d1 : w0.cell? ⟨w.heap.size, 1, none⟩ = some (.int .u64 (l.c : Nat)) := blk_cell (j := 1) HT.out rfl
  have d2 : w0.cell? ⟨w.heap.size, 2, none⟩ = some (.int .u64 (l.h : Nat)) := blk_cell (j := 2) HT.out rfl
  have d3 : w0.cell? ⟨w.heap.size, 3, none⟩ = some (.string (nstr l.d)) := blk_cell (j := 3) HT.out rfl
  have HCK := hide (check_any w0 l HL.out.toLkb)
  simp only [lkv] at HCK
  by_cases hok : lok l
  · rw [if_pos hok] at HCK
    go_upto_region 3 with (go_at_call 30; refine HCK.out.mono ?_; rintro e w1 ⟨rfl, hb1⟩)
    have HB1 : Hid (Below w.heap.size w w1) := HB0.out.trans (hb1.mono HB0.out.size)
    have HT1 : Hid (w1.heap[w.heap.size]? = some (.cells (lcs l) 29 (0, 0))) := (hb1.block _ (blk_lt HT.out)).trans HT.out
    clear d0 d1 d2 d3 HCK hb1 HT HB0
    have d0 : w1.cell? ⟨w.heap.size, 0, none⟩ = some (.int .i64 l.v) := blk_cell (j := 0) HT1.out rfl
    have d1 : w1.cell? ⟨w.heap.size, 1, none⟩ = some (.int .u64 (l.c : Nat)) := blk_cell (j := 1) HT1.out rfl
    have d2 : w1.cell? ⟨w.heap.size, 2, none⟩ = some (.int .u64 (l.h : Nat)) := blk_cell (j := 2) HT1.out rfl
    have d3 : w1.cell? ⟨w.heap.size, 3, none⟩ = some (.string (nstr l.d)) := blk_cell (j := 3) HT1.out rfl
    have HS1 := hide (HS.out.next HB1.out)
    have HK1 : Hid (Kp (fun q => q = g) w w1) := Kp.of_below HB1.out
    by_cases hh : l.h = 0
    · have HG : Hid (getr13 L l = (l.d, 0)) := by show _ = _; unfold getr13; rw [if_pos hok, if_pos hh]
      have g2 : (((l.h : Nat) : Int) == 0) = true := by rw [hh]; rfl
      have cv := conv_sb w1 (nstr l.d)
      have HB2 := hide (conv_sb_below w1 (nstr l.d))
      have HS3 := hide (HS1.out.next HB2.out)
      have hBS := conv_sb_bsl w1 (nstr l.d) (by rw [HL.out.toLkb.size]; exact HL.out.n)
      rw [sl_nstr HL.out.d] at hBS
      have HBS := hide hBS
      clear hh hok hBS
      go_wp2_with fail
      have HP : GetP w g B r L l (.returned (.tuple #[.slice (some ⟨w1.heap.size, 0, none⟩) (nstr l.d).size (grownCap w1 (nstr l.d).size 0 5), .int .i64 0])) (Lib.bytesWorld w1 5 (nstr l.d)) :=
        ⟨⟨_, by rw [HG.out]; rfl, by rw [HG.out]; exact HBS.out, fun q hq => by have h1 : w1.heap.size = q := Option.some.inj hq; have h2 := HB1.out.size; omega⟩, HS3.out, HK1.out.trans (Kp.of_below (S := fun _ => False) HB2.out) (fun _ _ h => h.elim)⟩
      go_ret2
      exact HP
    · have g2 : (((l.h : Nat) : Int) == 0) = false := beq_eq_false_iff_ne.2 (by omega)
      have HU := hide (under13_any w1 g B r L HS1.out l HL.out)
      obtain ⟨A, hA⟩ : ∃ A, atB L l = A := ⟨_, rfl⟩
      rw [hA] at HU
      simp only [lkv, bval] at HU
      cases A with
      | none =>
        have HG : Hid (getr13 L l = ([], 136)) := by show _ = _; unfold getr13; rw [if_pos hok, if_neg hh, hA]
        simp only [Option.getD_none, Option.isSome_none] at HU
        clear hh hok hA
        go_wp2_with (go_at_call 22; refine HU.out.mono ?_; rintro e w2 ⟨rfl, hs2, hk2⟩)
        have hb3 := below_alloc4 w2 (.cells #[.string (nstr [])] 63)
        have HP := GetP.no HG.out (hs2.next hb3) ((HK1.out.trans hk2 (fun _ _ e => e)).trans (Kp.of_below (S := fun _ => False) hb3) (fun _ _ h => h.elim))
        go_ret2
        exact HP
      | some b =>
        have HA := hide hA
        have HBB := hide (HS.out.m.ok _ (atB_mem hA))
        simp only [Option.getD_some, Option.isSome_some] at HU
        have HGA : Hid (getr13 L l = if dholds l.h l.d b then (b, 0) else ([], 137)) := by show _ = _; unfold getr13; rw [if_pos hok, if_neg hh, hA]
        clear hh hok hA
        go_upto_region 8 with (go_at_call 22; refine HU.out.mono ?_; rintro e w2 ⟨rfl, hs2, hk2⟩)
        have hgz : g < w.heap.size := blk_lt HS.out.c
        have hb3 := below_alloc4 w2 (.cells #[.string (nstr b)] 63)
        have HS3 := hide (hs2.next hb3)
        have HK3 : Hid (Kp (fun q => q = g) w (w2.alloc (.cells #[.string (nstr b)] 63))) := (HK1.out.trans hk2 (fun _ _ e => e)).trans (Kp.of_below (S := fun _ => False) hb3) (fun _ _ h => h.elim)
        have HT3 : Hid ((w2.alloc (.cells #[.string (nstr b)] 63)).heap[w.heap.size]? = some (.cells (lcs l) 29 (0, 0))) := blk_alloc _ ((hk2.block _ (blk_lt HT1.out) (by omega)).trans HT1.out)
        have a0 : (w2.alloc (.cells #[.string (nstr b)] 63)).cell? ⟨w2.heap.size, 0, none⟩ = some (.string (nstr b)) := blk_cell (j := 0) (heap_alloc_new w2 _) rfl
        clear d0 d1 d2 d3 HT1 HS1 HU hs2 hk2 hb3
        generalize w2.alloc (.cells #[.string (nstr b)] 63) = w3 at *
        have cv := conv_sb w3 (nstr b)
        have HB4 := hide (conv_sb_below w3 (nstr b))
        have HS4 := hide (HS3.out.next HB4.out)
        have HK4 : Hid (Kp (fun q => q = g) w (Lib.bytesWorld w3 5 (nstr b))) := HK3.out.trans (Kp.of_below (S := fun _ => False) HB4.out) (fun _ _ h => h.elim)
        have hBS := conv_sb_bsl w3 (nstr b) (by rw [nstr_size HBB.out.b]; exact Nat.le_trans HBB.out.n (by decide))
        rw [sl_nstr HBB.out.b] at hBS
        have HBS := hide hBS
        have HT4 : Hid ((Lib.bytesWorld w3 5 (nstr b)).heap[w.heap.size]? = some (.cells (lcs l) 29 (0, 0))) := (HB4.out.block _ (blk_lt HT3.out)).trans HT3.out
        clear hBS
        go_upto_region 9 with fail
        have HOB : Hid (w.heap.size ≤ w3.heap.size) := HK3.out.size
        generalize w3.heap.size = gg at *
        generalize grownCap w3 (nstr b).size 0 5 = G at *
        generalize Lib.bytesWorld w3 5 (nstr b) = w4 at *
        generalize (nstr b).size = N at *
        have d0 : w4.cell? ⟨w.heap.size, 0, none⟩ = some (.int .i64 l.v) := blk_cell (j := 0) HT4.out rfl
        have d1 : w4.cell? ⟨w.heap.size, 1, none⟩ = some (.int .u64 (l.c : Nat)) := blk_cell (j := 1) HT4.out rfl
        have d2 : w4.cell? ⟨w.heap.size, 2, none⟩ = some (.int .u64 (l.h : Nat)) := blk_cell (j := 2) HT4.out rfl
        have d3 : w4.cell? ⟨w.heap.size, 3, none⟩ = some (.string (nstr l.d)) := blk_cell (j := 3) HT4.out rfl
        have HH := hide (holds13_any w4 l HL.out.toLkb _ b (HCB.out _ HK4.out) HBS.out (Nat.le_trans HBB.out.n (by decide)))
        simp only [lkv] at HH
        clear cv a0 HT3 HS3 HK3 HB4 HT4
        cases hd : dholds l.h l.d b
        · rw [hd] at HH
          have HG : Hid (getr13 L l = ([], 137)) := by show _ = _; rw [HGA.out, hd]; rfl
          clear hd HGA
          go_wp2_with (go_at_call 25; refine HH.out.mono ?_; rintro e w5 ⟨rfl, hb5⟩)
          have HP := GetP.no HG.out (HS4.out.next hb5) (HK4.out.trans (Kp.of_below (S := fun _ => False) hb5) (fun _ _ h => h.elim))
          go_ret2
          exact HP
        · rw [hd] at HH
          have HG : Hid (getr13 L l = (b, 0)) := by show _ = _; rw [HGA.out, hd]; rfl
          clear hd HGA
          go_wp2_with (go_at_call 25; refine HH.out.mono ?_; rintro e w5 ⟨rfl, hb5⟩)
          have HP : GetP w g B r L l (.returned (.tuple #[.slice (some ⟨gg, 0, none⟩) N G, .int .i64 0])) w5 :=
            ⟨⟨_, by rw [HG.out]; rfl, by rw [HG.out]; exact HBS.out.move (keep_below hb5), fun q hq => by have h1 : gg = q := Option.some.inj hq; have h2 := HOB.out; omega⟩, HS4.out.next hb5, HK4.out.trans (Kp.of_below (S := fun _ => False) hb5) (fun _ _ h => h.elim)⟩
          go_ret2
          exact HP
  · rw [if_neg hok] at HCK
    have HG : Hid (getr13 L l = ([], 132)) := by show _ = _; unfold getr13; rw [if_neg hok]
    clear hok
    go_wp2_with (go_at_call 30; refine HCK.out.mono ?_; rintro e w1 ⟨rfl, hb1⟩)
    have HB1 : Below w.heap.size w w1 := HB0.out.trans (hb1.mono HB0.out.size)
    have HP := GetP.no HG.out (HS.out.next HB1) (Kp.of_below HB1)
    go_ret2
    exact HP
end
section
open Go.RowKit Go
theorem KSl.take {w : World} {a : Option Addr} {cap : Nat} {L : List Blk} (h : KSl w (.slice a L.length cap) L) (k : Nat) (hk : k ≤ L.length) : KSl w (.slice a k cap) (L.take k) := by
  obtain ⟨⟨a', cap', he, hn, hc⟩, hm⟩ := h
  injection he with e1 e2 e3
  subst e1 e3
  have hl : (L.take k).length = k := by simp; omega
  refine ⟨⟨a, cap, by rw [hl], ⟨by rw [hl]; omega, hn.2⟩, ?_⟩, by rw [hl]; omega⟩
  rcases hc with hc | ⟨b, off, ha, hc⟩
  · exact .inl (by rw [hc]; simp)
  · refine .inr ⟨b, off, ha, fun i x hx => hc i x ?_⟩
    rw [List.getElem?_take] at hx
    split at hx
    · exact hx
    · cases hx
theorem frt_le : ∀ X : List Blk, (frt X).1 ≤ X.length ∧ (frt X).2 ≤ 137
  | [] => ⟨Nat.le_refl _, by decide⟩
  | x :: r => by
    have h := frt_le r
    have h2 := fit13_le x
    rw [frt]
    split
    · split
      · simp only [List.length_cons]
        omega
      · simp
    · simp
      omega
theorem frt_good : ∀ (X : List Blk) (x : Blk), x ∈ X.take (frt X).1 → fit13 x = 0 ∧ dholds x.1.h x.1.d x.2 = true
  | [], x, h => by simp at h
  | y :: r, x, h => by
    rw [frt] at h
    by_cases hf : fit13 y = 0
    · rw [if_pos hf] at h
      by_cases hd : dholds y.1.h y.1.d y.2 = true
      · rw [if_pos hd] at h
        rw [List.take_succ_cons] at h
        rcases List.mem_cons.1 h with rfl | h
        · exact ⟨hf, hd⟩
        · exact frt_good r x h
      · rw [if_neg hd] at h
        simp at h
    · rw [if_neg hf] at h
      simp at h
theorem fit13_len {x : Blk} (h : fit13 x = 0) : x.2.length ≤ 67108864 := by
  unfold fit13 at h
  split at h
  · split at h
    · cases h
    · omega
  · cases h
/-- What Add answers, and what stands then. -/
def addr13 (r : Nat) (L X : List Blk) : (Nat × Nat) × List Blk := layr r L (X.take (frt X).1) (frt X).2
set_option maxRecDepth 1000000 in
set_option maxHeartbeats 1000000 in
theorem adds13_any (w : World) (g B r : Nat) (L : List Blk) (hS : Sto w g B r L) (v : Value) (X : List Blk) (hX : ∀ wy, Kp (fun q => q = g) w wy → KSl wy v X) (hn : X.length ≤ 1048576) (hcb : ∀ wy, Kp (fun q => q = g) w wy → Cb wy) :
    Calls Tryd.prog 26 #[.pointer (some ⟨g, 0, none⟩), v, .func (.func 25) #[] #[]] w (LayP w g B r (addr13 r L X)) := by
  have hv := hX w (Kp.refl _ _)
  have HF := hide (front13_any w v X hv (hcb w (Kp.refl _ _)))
  have HS := hide hS
  have HX := hide hX
  have HCB := hide hcb
  obtain ⟨⟨a, cap, rfl, ⟨hcap, hcn⟩, -⟩, hmax⟩ := hv
  have HLE := hide (frt_le X)
  obtain ⟨i, hi⟩ : ∃ i, (frt X).1 = i := ⟨_, rfl⟩
  obtain ⟨er, her⟩ : ∃ e, (frt X).2 = e := ⟨_, rfl⟩
  have HG := hide (frt_good X)
  have HAD : Hid (addr13 r L X = layr r L (X.take i) er) := by show _ = _; unfold addr13; rw [hi, her]
  rw [hi, her] at HF HLE
  rw [hi] at HG
  have hil := HLE.out.1
  have hic : i ≤ cap := by omega
  clear hi her hX hcb hS
  go_enter Tryd.func26, Tryd.ntmps26
  go_upto_region 2 with (go_at_call 39; refine HF.out.mono ?_; rintro e w1 ⟨rfl, hb1⟩)
  have hk1 : Kp (fun q => q = g) w w1 := Kp.of_below hb1
  have HS1 : Hid (Sto w1 g B r L) := ⟨(hb1.block _ (blk_lt HS.out.c)).trans HS.out.c, HS.out.m.next hb1, HS.out.h, HS.out.n⟩
  have HLY := hide (lay13_any w1 g B r L HS1.out (.slice a i cap) (X.take i) (fun wy hy => (HX.out wy (hk1.trans hy (fun _ _ e => e))).take i hil) (fun x hx => fit13_len (HG.out x hx).1) (by simp; omega) (fun wy hy => HCB.out wy (hk1.trans hy (fun _ _ e => e))) er)
  have HK1 := hide hk1
  clear hb1 hk1
  go_wp2_with (go_at_call 24; refine HLY.out.mono ?_; rintro e w2 ⟨rfl, hs2, hk2⟩)
  have HP : LayP w g B r (addr13 r L X) (.returned (.tuple #[.int .i64 ((layr r L (X.take i) er).1.1 : Nat), .int .i64 ((layr r L (X.take i) er).1.2 : Nat)])) w2 := by
    rw [HAD.out]
    exact ⟨rfl, hs2, (HK1.out.mono (fun _ _ e => .inl e)).trans hk2 (fun _ _ e => e)⟩
  go_ret2
  exact HP
set_option maxRecDepth 1000000 in
theorem Adds13_any (w : World) (g B r : Nat) (L : List Blk) (hS : Sto w g B r L) (v : Value) (X : List Blk) (hX : ∀ wy, Kp (fun q => q = g) w wy → KSl wy v X) (hn : X.length ≤ 1048576) (hcb : ∀ wy, Kp (fun q => q = g) w wy → Cb wy) :
    Calls Tryd.prog 14 #[.pointer (some ⟨g, 0, none⟩), v] w (LayP w g B r (addr13 r L X)) := by
  have HA := hide (adds13_any w g B r L hS v X hX hn hcb)
  obtain ⟨⟨a, cap, rfl, -, -⟩, -⟩ := hX w (Kp.refl _ _)
  clear hS hX hcb
  go_enter Tryd.func14, Tryd.ntmps14
  go_wp2_with (go_at_call 26; refine HA.out.mono ?_; rintro e w2 ⟨rfl, hs2, hk2⟩)
  have HP : LayP w g B r (addr13 r L X) (.returned (.tuple #[.int .i64 ((addr13 r L X).1.1 : Nat), .int .i64 ((addr13 r L X).1.2 : Nat)])) w2 := ⟨rfl, hs2, hk2⟩
  go_ret2
  exact HP
end
section
open Go.RowKit Go
/-! ### Force -/
/-- What Force answers, and what stands then. -/
def forr13 (r : Nat) (L : List Blk) (l : Lk) (b : List Nat) : Nat × List Blk :=
  if fit13 (l, b) = 0 then if (atB L l).isSome = false ∧ r ≤ L.length then (135, L) else (0, putB L l b) else (fit13 (l, b), L)
structure ForP (w : World) (g B r : Nat) (R : Nat × List Blk) (e : Ending) (w' : World) : Prop where
  e : e = .returned (.int .i64 (R.1 : Nat))
  s : Sto w' g B r R.2
  k : Kp (fun q => q = g ∨ q = B) w w'
set_option maxRecDepth 1000000 in
set_option maxHeartbeats 2000000 in
theorem force13_any (w : World) (g B r : Nat) (L : List Blk) (hS : Sto w g B r L) (l : Lk) (hl : Lkx l) (vb : Value) (b : List Nat) (hb : ∀ wy, Kp (fun q => q = g) w wy → BSl wy vb b) : Calls Tryd.prog 9 #[.pointer (some ⟨g, 0, none⟩), lkv l, vb] w (ForP w g B r (forr13 r L l b)) := by
  have hb0 := hb w (Kp.refl _ _)
  have HS := hide hS
  have HBH := hide hb
  have HL := hide hl
  have HB00 := hide hb0
  obtain ⟨⟨a, cap, rfl, -, -⟩, -, hby⟩ := hb0
  have HBY := hide hby
  have HT : Hid ((w.alloc (.cells #[.int .i64 l.v, .int .u64 (l.c : Nat), .int .u64 (l.h : Nat), .string (nstr l.d)] 29)).heap[w.heap.size]? = some (.cells (lcs l) 29 (0, 0))) := heap_alloc_new w _
  have HB0 := hide (below_alloc4 w (.cells #[.int .i64 l.v, .int .u64 (l.c : Nat), .int .u64 (l.h : Nat), .string (nstr l.d)] 29))
  have hnot : ∀ (x : Bool) (w : World), (Op.unary .not (.bool x)).run Tryd.prog w = .ok (.bool (!x)) w := fun _ _ => rfl
  clear hS hb hl hby
  simp only [lkv]
  go_enter_defers Tryd.func9, Tryd.ntmps9
  go_upto_region 1 with fail
  generalize w.alloc (.cells #[.int .i64 l.v, .int .u64 (l.c : Nat), .int .u64 (l.h : Nat), .string (nstr l.d)] 29) = w0 at *
  have d0 : w0.cell? ⟨w.heap.size, 0, none⟩ = some (.int .i64 l.v) := blk_cell (j := 0) HT.out rfl
  have d1 : w0.cell? ⟨w.heap.size, 1, none⟩ = some (.int .u64 (l.c : Nat)) := blk_cell (j := 1) HT.out rfl
  have d2 : w0.cell? ⟨w.heap.size, 2, none⟩ = some (.int .u64 (l.h : Nat)) := blk_cell (j := 2) HT.out rfl
  have d3 : w0.cell? ⟨w.heap.size, 3, none⟩ = some (.string (nstr l.d)) := blk_cell (j := 3) HT.out rfl
  have HF := hide (fits13_any w0 l HL.out.toLkb (.slice a b.length cap) b (HB00.out.move (keep_below HB0.out)))
  rw [show (if lok l ∧ l.h = 18 then if 67108864 < b.length then (133 : Int) else 0 else 132) = (fit13 (l, b) : Nat) from fit13_cast (l, b)] at HF
  simp only [lkv] at HF
  by_cases hf : fit13 (l, b) = 0
  · have HB6 := hide (fit13_len hf)
    have HRA : Hid (forr13 r L l b = if (atB L l).isSome = false ∧ r ≤ L.length then (135, L) else (0, putB L l b)) := by show _ = _; unfold forr13; rw [if_pos hf]
    have g2 : (((fit13 (l, b) : Nat) : Int) != 0) = false := by rw [hf]; rfl
    clear hf
    go_upto_region 4 with (go_at_call 18; refine HF.out.mono ?_; rintro e w1 ⟨rfl, hb1⟩)
    have HB1 : Hid (Below w.heap.size w w1) := HB0.out.trans (hb1.mono HB0.out.size)
    have HT1 : Hid (w1.heap[w.heap.size]? = some (.cells (lcs l) 29 (0, 0))) := (hb1.block _ (blk_lt HT.out)).trans HT.out
    have HS1 := hide (HS.out.next HB1.out)
    have hlk := HS1.out.lock
    have HE := hide hlk.1
    have HK1 := hide hlk.2
    have c1 : w1.cell? ⟨g, 1, none⟩ = some (.int .i32 0) := blk_cell (j := 1) HS1.out.c rfl
    have f1 := blk_frozen 1 HS1.out.c
    have hgz : g < w.heap.size := blk_lt HS.out.c
    have hBz : B < w.heap.size := HS.out.m.lt
    clear hlk d0 d1 d2 d3 hb1 HT HF
    go_upto_region 6 with (go_at_call 19; refine (lockFree ⟨g, 1, none⟩ _ c1 f1).mono ?_; rintro e w' ⟨rfl, rfl⟩)
    generalize w1.setCell ⟨g, 1, none⟩ (.int .i32 1) = w2 at *
    clear c1 f1
    have HT2 : Hid (w2.heap[w.heap.size]? = some (.cells (lcs l) 29 (0, 0))) := (HK1.out.block _ (blk_lt HT1.out) (by omega)).trans HT1.out
    have HK2 : Hid (Kp (fun q => q = g) w w2) := (Kp.of_below HB1.out).trans HK1.out (fun _ _ e => e)
    obtain ⟨q, hq⟩ : ∃ q, (atB L l).getD [] = q := ⟨_, rfl⟩
    obtain ⟨f, hf⟩ : ∃ f, (atB L l).isSome = f := ⟨_, rfl⟩
    have HQ := hide hq
    have HFF := hide hf
    have hlk : (Instr.lookup 43 (.map (some B)) (.agg #[.int .i64 l.v, .int .u64 (l.c : Nat), .int .u64 (l.h : Nat), .string (nstr l.d)]) true).run Tryd.prog w2.drew = .ok (.tuple #[.agg #[.string (nstr q)], .bool f]) w2.drew := by
      have h := (HE.out.m.block (w' := w2.drew) rfl).look HL.out
      rw [HQ.out, HFF.out] at h
      exact h
    have hlk2 : (Instr.lookup 43 (.map (some B)) (.agg #[.int .i64 l.v, .int .u64 (l.c : Nat), .int .u64 (l.h : Nat), .string (nstr l.d)]) true).run Tryd.prog (w2.alloc (.cells #[.string ⟨#[]⟩] 63)).drew = .ok (.tuple #[.agg #[.string (nstr q)], .bool f]) (w2.alloc (.cells #[.string ⟨#[]⟩] 63)).drew := by
      have h := ((HE.out.m.next (below_alloc4 w2 _)).block (w' := (w2.alloc (.cells #[.string ⟨#[]⟩] 63)).drew) rfl).look HL.out
      rw [HQ.out, HFF.out] at h
      exact h
    have d0 : w2.cell? ⟨w.heap.size, 0, none⟩ = some (.int .i64 l.v) := blk_cell (j := 0) HT2.out rfl
    have d1 : w2.cell? ⟨w.heap.size, 1, none⟩ = some (.int .u64 (l.c : Nat)) := blk_cell (j := 1) HT2.out rfl
    have d2 : w2.cell? ⟨w.heap.size, 2, none⟩ = some (.int .u64 (l.h : Nat)) := blk_cell (j := 2) HT2.out rfl
    have d3 : w2.cell? ⟨w.heap.size, 3, none⟩ = some (.string (nstr l.d)) := blk_cell (j := 3) HT2.out rfl
    have s3 : w2.cell? ⟨g, 3, none⟩ = some (.map (some B)) := blk_cell (j := 3) HE.out.c rfl
    have l1 : w.heap.size < w2.heap.size := blk_lt HT2.out
    have l2 : g < w2.heap.size := blk_lt HE.out.c
    clear hq hf
    go_cut [8, 9] from 23 to 63 (fun a b wx => a = .pointer (some ⟨w2.heap.size, 0, none⟩) ∧ b = .bool f ∧ wx = (w2.alloc (.cells #[.string (nstr q)] 63)).drew)
    case first => as_aux_lemma =>
      go_region
      all_goals (go_wp2_with fail; go_meet; exact ⟨rfl, rfl, rfl⟩)
    case rest =>
      obtain ⟨rfl, rfl, rfl⟩ := hcut
      have HB3 : Hid (Below w2.heap.size w2 (w2.alloc (.cells #[.string (nstr q)] 63)).drew) := (below_alloc4 w2 _).drew
      have HA3 : Hid ((w2.alloc (.cells #[.string (nstr q)] 63)).drew.heap[w2.heap.size]? = some (.cells #[.string (nstr q)] 63 (0, 0))) := heap_alloc_new w2 _
      clear hlk hlk2 d0 d1 d2 d3 s3
      generalize (w2.alloc (.cells #[.string (nstr q)] 63)).drew = w3 at *
      have HE3 := hide (HE.out.next HB3.out)
      have HT3 : Hid (w3.heap[w.heap.size]? = some (.cells (lcs l) 29 (0, 0))) := (HB3.out.block _ (blk_lt HT2.out)).trans HT2.out
      have HK3 : Hid (Kp (fun q => q = g) w w3) := HK2.out.trans (Kp.of_below (S := fun _ => False) HB3.out) (fun _ _ h => h.elim)
      clear HE HT2 HK2 HB3 HT1 HS1 HK1
      go_upto_region 7 with fail
      have s0 : ∀ t : Ext w3, t.w'.cell? ⟨g, 0, none⟩ = some (.int .i64 (r : Nat)) := fun t => Ext.cell (blk_cell (j := 0) HE3.out.c rfl) t
      have s3 : ∀ t : Ext w3, t.w'.cell? ⟨g, 3, none⟩ = some (.map (some B)) := fun t => Ext.cell (blk_cell (j := 3) HE3.out.c rfl) t
      have hln : ∀ (t : Ext w3) ty, (Builtin.len_ #[43] ty #[.map (some B)]).run Tryd.prog t.w' = .ok (.int .i64 (L.length : Nat)) t.w' := fun t ty => (HE3.out.m.next t.h).len ty
      obtain ⟨fu, hfu⟩ : ∃ fu, decide (r ≤ L.length) = fu := ⟨_, rfl⟩
      go_cut [45] from 23 to 63 (fun a wx => a = .bool (!f && fu) ∧ Hid (Below w3.heap.size w3 wx))
      case first => as_aux_lemma =>
        cases f
        · refine region_ext (by kernel_rfl) (by kernel_rfl) ?_
          repeat (
            with_reducible refine wpQuiet_step (fun K hK => ?_)
            go_simp
            with_reducible refine hK _ ?_
            clear hK K)
          refine wpQuiet_nil ?_
          rintro _ ⟨t4, rfl⟩
          go_wp2_with fail
          go_meet
          exact ⟨rfl, t4.h⟩
        · refine region_ext (by kernel_rfl) (by kernel_rfl) ?_
          repeat (
            with_reducible refine wpQuiet_step (fun K hK => ?_)
            go_simp
            with_reducible refine hK _ ?_
            clear hK K)
          refine wpQuiet_nil ?_
          rintro _ ⟨t4, rfl⟩
          go_wp2_with fail
          go_meet
          exact ⟨rfl, t4.h⟩
      case rest =>
        obtain ⟨rfl, hb4⟩ := hcut
        have HE4 := hide (HE3.out.next hb4.out)
        have HT4 : Hid (wc.heap[w.heap.size]? = some (.cells (lcs l) 29 (0, 0))) := (hb4.out.block _ (blk_lt HT3.out)).trans HT3.out
        have HA4 : Hid (wc.heap[w2.heap.size]? = some (.cells #[.string (nstr q)] 63 (0, 0))) := (hb4.out.block _ (blk_lt HA3.out)).trans HA3.out
        have HK4 : Hid (Kp (fun q => q = g) w wc) := HK3.out.trans (Kp.of_below (S := fun _ => False) hb4.out) (fun _ _ h => h.elim)
        have HFU := hide hfu
        clear s0 s3 hln hb4 HE3 HT3 HA3 HK3 hfu
        cases hcn : (!f && fu)
        · have HN : Hid ((putB L l b).length ≤ r) := by
            have h1 := len_put HS.out.m.nd l b
            have h2 := HS.out.n
            rw [HFF.out] at h1
            show _ ≤ _
            cases f
            · simp at hcn
              rw [hcn] at HFU
              have h3 := of_decide_eq_false HFU.out
              simp at h1
              omega
            · simp at h1
              omega
          have HR : Hid (forr13 r L l b = (0, putB L l b)) := by
            show _ = _
            rw [HRA.out, if_neg]
            rintro ⟨h1, h2⟩
            rw [HFF.out] at h1
            rw [← HFU.out, h1, decide_eq_true h2] at hcn
            simp at hcn
          have hl65 : L.length < 140737488351232 := by have h1 := HS.out.n; have h2 := HS.out.h.2; omega
          have HLL := hide hl65
          have HBG : Hid (Bgd (l, b)) := ⟨HL.out, HBY.out, HB6.out⟩
          have HBS := hide (HBH.out wc HK4.out)
          clear hcn hl65
          go_upto_region 9 with fail
          have s3 : ∀ t : Ext wc, t.w'.cell? ⟨g, 3, none⟩ = some (.map (some B)) := fun t => Ext.cell (blk_cell (j := 3) HE4.out.c rfl) t
          have d0 : ∀ t : Ext wc, t.w'.cell? ⟨w.heap.size, 0, none⟩ = some (.int .i64 l.v) := fun t => Ext.cell (blk_cell (j := 0) HT4.out rfl) t
          have d1 : ∀ t : Ext wc, t.w'.cell? ⟨w.heap.size, 1, none⟩ = some (.int .u64 (l.c : Nat)) := fun t => Ext.cell (blk_cell (j := 1) HT4.out rfl) t
          have d2 : ∀ t : Ext wc, t.w'.cell? ⟨w.heap.size, 2, none⟩ = some (.int .u64 (l.h : Nat)) := fun t => Ext.cell (blk_cell (j := 2) HT4.out rfl) t
          have d3 : ∀ t : Ext wc, t.w'.cell? ⟨w.heap.size, 3, none⟩ = some (.string (nstr l.d)) := fun t => Ext.cell (blk_cell (j := 3) HT4.out rfl) t
          have cv : ∀ t : Ext wc, (convert 34 9 (.slice a b.length cap)).run Tryd.prog t.w' = .ok (.string (nstr b)) t.w' := fun t => (Ext.bsl HBS.out t).text
          refine region_ext_tail 8 (by kernel_rfl) (by kernel_rfl) ?_
          simp only [List.take_succ_cons, List.take_zero, List.drop_succ_cons, List.drop_zero]
          repeat (
            with_reducible refine wpQuiet_step (fun K hK => ?_)
            go_simp
            with_reducible refine hK _ ?_
            clear hK K)
          refine wpQuiet_nil ?_
          rintro _ ⟨t5, rfl⟩
          have HM5 := hide (HE4.out.m.next t5.h)
          have HG5 : Hid (t5.w'.heap[g]? = some (.cells (stc r 1 B (szB L)) 56 (0, 0))) := (t5.h.block _ (blk_lt HE4.out.c)).trans HE4.out.c
          have HA5 : Hid (t5.w'.heap[w2.heap.size]? = some (.cells #[.string (nstr q)] 63 (0, 0))) := (t5.h.block _ (blk_lt HA4.out)).trans HA4.out
          have HK5 : Hid (Kp (fun q => q = g ∨ q = B) w t5.w') := (HK4.out.mono (fun _ _ e => .inl e)).trans (Kp.of_below (S := fun _ => False) t5.h) (fun _ _ h => h.elim)
          generalize t5.w' = w5 at *
          clear s3 d0 d1 d2 d3 cv HE4 HT4 HA4 HBS
          go_upto_region 10 with (at_mapUpdate; refine wpList_putB (B := B) (L := L) (l := l) (b := b) rfl rfl rfl rfl rfl HM5.out HBG.out HLL.out ?_; intro w6 hM6 hK6 hz6; go_frame)
          have HM6 := hide hM6
          have HG6 : Hid (w6.heap[g]? = some (.cells (stc r 1 B (szB L)) 56 (0, 0))) := (hK6.block _ (blk_lt HG5.out) (HM5.out.ne HG5.out)).trans HG5.out
          have HA6 : Hid (w6.heap[w2.heap.size]? = some (.cells #[.string (nstr q)] 63 (0, 0))) := (hK6.block _ (blk_lt HA5.out) (HM5.out.ne HA5.out)).trans HA5.out
          have HK6 : Hid (Kp (fun q => q = g ∨ q = B) w w6) := HK5.out.trans hK6 (fun _ _ e => .inr e)
          clear hM6 hK6 hz6 HM5 HG5 HA5 HK5
          have HQB : Hid (∀ y ∈ q, y < 256) := qb_of HQ.out (fun b hb => (HS.out.m.ok _ (atB_mem hb)).b)
          have HQ6 : Hid (q.length ≤ 67108864) := ql_of HQ.out (fun b hb => (HS.out.m.ok _ (atB_mem hb)).n)
          have hqs : ((nstr q).size : Int) = (q.length : Int) := by rw [nstr_size HQB.out]
          obtain ⟨y, hy⟩ : ∃ y : Int, (b.length : Int) - (q.length : Int) = y := ⟨_, rfl⟩
          have wr1 : IntKind.i64.wrap ((b.length : Int) - ((nstr q).size : Int)) = y := by have h1 := HB6.out; have h2 := HQ6.out; rw [IntKind.wrap_i64, hqs]; omega
          have HSZ : Hid (((szB L : Nat) : Int) + y = szB (putB L l b)) := by
            have h1 := sz_put HS.out.m.nd l b
            rw [HQ.out] at h1
            show _ = _
            omega
          have a0 : ∀ t : Ext w6, t.w'.cell? ⟨w2.heap.size, 0, none⟩ = some (.string (nstr q)) := fun t => Ext.cell (blk_cell (j := 0) HA6.out rfl) t
          clear hqs hy
          refine region_ext_tail 9 (by kernel_rfl) (by kernel_rfl) ?_
          simp only [List.take_succ_cons, List.take_zero, List.drop_succ_cons, List.drop_zero]
          repeat (
            with_reducible refine wpQuiet_step (fun K hK => ?_)
            go_simp
            with_reducible refine hK _ ?_
            clear hK K)
          refine wpQuiet_nil ?_
          rintro _ ⟨t7, rfl⟩
          have HM7 := hide (HM6.out.next t7.h)
          have HG7 : Hid (t7.w'.heap[g]? = some (.cells (stc r 1 B (szB L)) 56 (0, 0))) := (t7.h.block _ (blk_lt HG6.out)).trans HG6.out
          have HK7 : Hid (Kp (fun q => q = g ∨ q = B) w t7.w') := HK6.out.trans (Kp.of_below (S := fun _ => False) t7.h) (fun _ _ h => h.elim)
          generalize t7.w' = w7 at *
          clear a0 HM6 HG6 HA6 HK6 wr1
          have HSB : Hid (-9223372036854775808 ≤ ((szB L : Nat) : Int) + y ∧ ((szB L : Nat) : Int) + y ≤ 9223372036854775807) := by
            have h1 := sz_le (fun p hp => (HM7.out.ok p hp).n)
            have h2 := HSZ.out
            have h3 := HN.out
            have h4 := HS.out.h.2
            show _ ∧ _
            rw [h2]
            omega
          have HAD := hide (add64_any ⟨g, 4, none⟩ (szB L) y w7 (blk_cell (j := 4) HG7.out rfl) (blk_frozen 4 HG7.out) HSB.out)
          go_upto_region 11 with (go_at_call 21; refine HAD.out.mono ?_; rintro e w8 ⟨rfl, rfl⟩)
          have hk8 : Kp (fun q => q = g) w7 (w7.setCell ⟨g, 4, none⟩ (.int .i64 ((szB L : Nat) + y))) := (Kp.refl _ w7).setCell _ _ (fun _ => rfl)
          have HZE : Hid (Stl (w7.setCell ⟨g, 4, none⟩ (.int .i64 ((szB L : Nat) + y))) g B r ((szB L : Nat) + y) (putB L l b)) := ⟨by have := blk_set 4 (.int .i64 ((szB L : Nat) + y)) HG7.out; rw [stc_set4] at this; exact this, HM7.out.kp hk8 (fun e => HM7.out.ne HG7.out e.symm)⟩
          have HKE : Hid (Kp (fun q => q = g ∨ q = B) w (w7.setCell ⟨g, 4, none⟩ (.int .i64 ((szB L : Nat) + y)))) := HK7.out.trans hk8 (fun _ _ e => .inl e)
          generalize w7.setCell ⟨g, 4, none⟩ (.int .i64 ((szB L : Nat) + y)) = w8 at *
          clear hk8 HG7 HK7 HM7 HAD
          go_wp2_with fail
          refine leaves_cons (f := 20) (args := #[.pointer (some ⟨g, 1, none⟩)]) (by simp) (by simp [go_sem]) ?_
          refine (unlockLate ⟨g, 1, none⟩ .returning _ (blk_cell (j := 1) HZE.out.c rfl) (blk_frozen 1 HZE.out.c)).mono ?_
          rintro e u' w'' ⟨rfl, rfl, rfl⟩
          have hu := HZE.out.unlock HSZ.out HS.out.h HN.out
          have HP : ForP w g B r (forr13 r L l b) (.returned (.int .i64 0)) (w8.setCell ⟨g, 1, none⟩ (.int .i32 0)) := by rw [HR.out]; exact ⟨rfl, hu.1, HKE.out.trans hu.2 (fun _ _ e => .inl e)⟩
          refine ⟨.int .i64 0, (results_tmp (t := 6) rfl _ _ _).trans ?_, HP⟩
          rfl
        · have HR : Hid (forr13 r L l b = (135, L)) := by
            rw [Bool.and_eq_true] at hcn
            have h1 : f = false := by simpa using hcn.1
            have h2 := HFU.out
            rw [hcn.2] at h2
            show _ = _
            rw [HRA.out, if_pos ⟨HFF.out.trans h1, of_decide_eq_true h2⟩]
          have HZE := HE4
          clear hcn
          go_wp2_with fail
          refine leaves_cons (f := 20) (args := #[.pointer (some ⟨g, 1, none⟩)]) (by simp) (by simp [go_sem]) ?_
          refine (unlockLate ⟨g, 1, none⟩ .returning _ (blk_cell (j := 1) HZE.out.c rfl) (blk_frozen 1 HZE.out.c)).mono ?_
          rintro e u' w'' ⟨rfl, rfl, rfl⟩
          have hu := HZE.out.unlock rfl HS.out.h HS.out.n
          have HP : ForP w g B r (forr13 r L l b) (.returned (.int .i64 135)) (wc.setCell ⟨g, 1, none⟩ (.int .i32 0)) := by rw [HR.out]; exact ⟨rfl, hu.1, (HK4.out.trans hu.2 (fun _ _ e => e)).mono (fun _ _ e => .inl e)⟩
          refine ⟨.int .i64 135, (results_tmp (t := 6) rfl _ _ _).trans ?_, HP⟩
          rfl
  · have g2 : (((fit13 (l, b) : Nat) : Int) != 0) = true := by rw [bne_iff_ne]; omega
    have HRA : Hid (forr13 r L l b = (fit13 (l, b), L)) := by show _ = _; unfold forr13; rw [if_neg hf]
    clear hf
    go_wp2_with (go_at_call 18; refine HF.out.mono ?_; rintro e w1 ⟨rfl, hb1⟩)
    have HB1 : Below w.heap.size w w1 := HB0.out.trans (hb1.mono HB0.out.size)
    have HP : ForP w g B r (forr13 r L l b) (.returned (.int .i64 (fit13 (l, b) : Nat))) w1 := by rw [HRA.out]; exact ⟨rfl, HS.out.next HB1, Kp.of_below HB1⟩
    refine ⟨.int .i64 (fit13 (l, b) : Nat), (results_tmp (t := 6) rfl _ _ _).trans ?_, HP⟩
    rfl
end
section
open Go.RowKit Go
/-! ### num, Within, Name -/
theorem num13_any (w : World) (n : Int) : Calls Tryd.prog 7 #[.int .i64 n] w fun e w' => e = .returned (.int .i64 n) ∧ w' = w := by
  go_enter Tryd.func7, Tryd.ntmps7
  go_wp2_with fail
  go_ret
  exact ⟨rfl, rfl⟩
set_option maxRecDepth 1000000 in
theorem within13_any (m : Int) (w : World) : Calls Tryd.prog 4 #[.int .i64 m, .int .i64 67108866] w fun e w' => ∃ k : Nat, k < 67108866 ∧ e = .returned (.int .i64 (k : Nat)) ∧ w' = w := by
  have h1 : -67108866 < m.tmod 67108866 ∧ m.tmod 67108866 < 67108866 := by
    by_cases h : 0 ≤ m
    · rw [Int.tmod_eq_emod_of_nonneg h]; omega
    · have e : m = -(-m) := by omega
      rw [e, Int.neg_tmod, Int.tmod_eq_emod_of_nonneg (by omega)]; omega
  by_cases hneg : m.tmod 67108866 < 0
  · go_enter Tryd.func4, Tryd.ntmps4
    go_wp2
    go_ret
    refine ⟨(m.tmod 67108866 + 67108866).toNat, by omega, ?_, rfl⟩
    rw [Int.toNat_of_nonneg (by omega)]
    rfl
  · go_enter Tryd.func4, Tryd.ntmps4
    go_wp2
    go_ret
    refine ⟨(m.tmod 67108866).toNat, by omega, ?_, rfl⟩
    rw [Int.toNat_of_nonneg (by omega)]
    rfl
set_option maxRecDepth 1000000 in
set_option maxHeartbeats 1000000 in
theorem name13_any (w : World) (c : Nat) (vb : Value) (b : List Nat) (hb : BSl w vb b) (hbl : b.length ≤ 140737488351232) :
    Calls Tryd.prog 17 #[.int .u64 (c : Nat), vb] w fun e w' => e = .returned (lkv ⟨1, c, 18, sha b⟩) ∧ Below w.heap.size w w' := by
  have HB := hide hb
  have HBL := hide hbl
  obtain ⟨⟨a, cap, rfl, hn, hc⟩, hmax, hby⟩ := hb
  clear hn hc hby hbl
  have HR0 : Hid ((w.alloc (.cells #[.int .i64 0, .int .u64 0, .int .u64 0, .string ⟨#[]⟩] 29)).heap[w.heap.size]? = some (.cells zlk 29 (0, 0))) := heap_alloc_new w _
  have HB0 := hide (below_alloc4 w (.cells #[.int .i64 0, .int .u64 0, .int .u64 0, .string ⟨#[]⟩] 29))
  generalize hn : (c : Int) = n at *
  have HN := hide hn
  clear hn
  go_enter Tryd.func17, Tryd.ntmps17
  go_wp2_with fail
  generalize w.alloc (.cells #[.int .i64 0, .int .u64 0, .int .u64 0, .string ⟨#[]⟩] 29) = w0 at *
  refine (refSum_any w0 _ b (HB.out.move (keep_below HB0.out)) HBL.out).mono ?_
  rintro e w1 ⟨rfl, hb1⟩
  have HI := hide (info32d b)
  have HON := hide (one32 b)
  have HSL := hide (sha_len b)
  have HSB := hide (sha_byte b)
  have hb2 := hb1.trans ((below_alloc4 w1 (.cells (bv (sha b)).toArray 57)).mono hb1.size)
  have HR2 : Hid ((w1.alloc (.cells (bv (sha b)).toArray 57)).heap[w.heap.size]? = some (.cells zlk 29 (0, 0))) := (hb2.block _ (blk_lt HR0.out)).trans HR0.out
  have HB2 : Hid (Below w.heap.size w (w1.alloc (.cells (bv (sha b)).toArray 57))) := HB0.out.trans (hb2.mono HB0.out.size)
  have HBD := hide (bsl_block (heap_alloc_new w1 (.cells (bv (sha b)).toArray 57)) HSB.out (by rw [HSL.out]; decide))
  rw [HSL.out] at HBD
  clear hb1 hb2 HR0 HB0
  generalize hD : sha b = D at HI HON HSL HSB HR2 HB2 HBD ⊢
  have HDE := hide hD
  clear hD
  have cv := HBD.out.text
  have HAG : Hid (lcs ⟨1, c, 18, D⟩ = #[.int .i64 1, .int .u64 n, .int .u64 18, .string (nstr D)]) := by show _ = _; rw [← HN.out]; rfl
  go_wp2_with (first
    | (refine wpList_storeRow rfl rfl w1.heap.size _ (bv D).toArray 57 rfl rfl (heap_alloc_new w1 _) HI.out (by simp [bv_len, HSL.out]) HON.out ?_; rw [World.setRow_alloc_new])
    | (refine wpList_storeLk rfl rfl w.heap.size zlk ⟨1, c, 18, D⟩ rfl (by rw [HAG.out]; rfl) rfl HR2.out ?_))
  exact bodyPost_ret (results_cell_row rfl _ _ _ _ _ _ _ rfl (row_same HR2.out) Tryd.underlying29 rfl info61) rfl ⟨by rw [HDE.out]; rfl, HB2.out.trans ((row_kp _ _ _).below HB2.out.size (fun q e => by omega))⟩
/-! ### What works holds -/
theorem sha_ab : sha [97] ≠ sha [98] := by decide +kernel
theorem sha_ac : sha [97] ≠ sha [99] := by decide +kernel
theorem dh18 (d b : List Nat) : dholds 18 d b = decide (d = sha b) := by unfold dholds; rw [if_pos rfl]
def la13 : Lk := ⟨1, 85, 18, sha [97]⟩
def lc13 : Lk := ⟨1, 85, 18, sha [99]⟩
theorem putr_a : putr13 1 [] 85 [97] = ((la13, 0), [(la13, [97])]) := by
  unfold putr13
  rw [if_pos (by decide), if_neg (by simp)]
  have h1 : (lof 85 [97]).1 = la13 := rfl
  rw [h1]
  have h2 : layr 1 [] [(la13, [97])] 0 = ((1, 0), [(la13, [97])]) := by
    unfold layr
    rw [drf_new (by rfl) (by rfl), drf]
    simp [mrg, putB, delB]
  rw [h2]
  rfl
theorem lok_la : lok la13 := .inr ⟨rfl, by decide, .inl ⟨rfl, sha_len [97]⟩⟩
theorem at_la : atB [(la13, [97])] la13 = some [97] := by rw [atB_cons, if_pos rfl]
theorem getr_a : getr13 [(la13, [97])] la13 = ([97], 0) := by
  unfold getr13
  rw [if_pos lok_la, if_neg (by decide), at_la]
  simp only
  exact if_pos (show dholds 18 (sha [97]) [97] = true by rw [dh18]; exact decide_eq_true rfl)
theorem addr_b : addr13 1 [(la13, [97])] [(la13, [98])] = ((0, 137), [(la13, [97])]) := by
  have hf : frt [(la13, [98])] = (0, 137) := by
    rw [frt, if_pos (by unfold fit13; rw [if_pos ⟨lok_la, rfl⟩, if_neg (by decide)])]
    exact if_neg (show ¬ dholds 18 (sha [97]) [98] = true by rw [dh18, decide_eq_false sha_ab]; decide)
  unfold addr13
  rw [hf]
  unfold layr
  simp [drf]
theorem lc_ne : la13 ≠ lc13 := fun e => sha_ac (congrArg Lk.d e)
theorem putr_c : putr13 1 [(la13, [97])] 85 [99] = ((Lk.none, 135), [(la13, [97])]) := by
  unfold putr13
  rw [if_pos (by decide), if_neg (by simp)]
  have h1 : (lof 85 [99]).1 = lc13 := rfl
  rw [h1]
  have h2 : layr 1 [(la13, [97])] [(lc13, [99])] 0 = ((0, 135), [(la13, [97])]) := by
    unfold layr
    rw [drf_new (by rfl) (by rw [atB_cons, if_neg lc_ne]; rfl), drf]
    simp
  rw [h2]
  simp
end
section
open Go.RowKit Go
/-! ### works -/
/-- A store all of whose memory is new since w. -/
structure Nst (w wx : World) (g B r : Nat) (L : List Blk) : Prop where
  s : Sto wx g B r L
  b : Below w.heap.size w wx
  g : w.heap.size ≤ g
  m : w.heap.size ≤ B
theorem Nst.next {w wx wy : World} {g B r : Nat} {L : List Blk} (h : Nst w wx g B r L) (hb : Below wx.heap.size wx wy) : Nst w wy g B r L := ⟨h.s.next hb, h.b.trans (hb.mono h.b.size), h.g, h.m⟩
theorem Nst.of {w wx wy : World} {g B r : Nat} {L M : List Blk} (h : Nst w wx g B r L) (hs : Sto wy g B r M) (hk : Kp (fun q => q = g ∨ q = B) wx wy) : Nst w wy g B r M := ⟨hs, h.b.trans (hk.below h.b.size (fun q e => by have h1 := h.g; have h2 := h.m; rcases e with e | e <;> omega)), h.g, h.m⟩
theorem Nst.cb {w wx : World} {g B r : Nat} {L : List Blk} (h : Nst w wx g B r L) (hc : Cb w) : ∀ wy, Kp (fun q => q = g) wx wy → Cb wy := fun _ hy => hc.below (h.b.trans (hy.below h.b.size (fun q e => by have h1 := h.g; omega)))
theorem litc (w : World) (c : Int) : Sem.run Tryd.prog (convert 34 34 (.slice (some ⟨w.heap.size, 0, none⟩) 1 1)) (w.alloc (.cells #[.int .u8 c] 5)) = .ok (.slice (some ⟨w.heap.size, 0, none⟩) 1 1) (w.alloc (.cells #[.int .u8 c] 5 (1, 2))) := Lib.run_convert_bytes_const (P := Tryd.prog) w 34 5 #[.int .u8 c] 1 1 Tryd.underlying34 Tryd.underlying5
theorem bsl_blk {w : World} {g : Nat} {c : Nat} {t : TypeId} {fr : Nat × Nat} (h : w.heap[g]? = some (.cells #[.int .u8 (c : Nat)] t fr)) (hc : c < 256) : BSl w (.slice (some ⟨g, 0, none⟩) 1 1) [c] := by
  refine ⟨⟨_, 1, rfl, ⟨Nat.le_refl _, fun h => by cases h⟩, .inr ⟨g, 0, rfl, fun j hj => ?_⟩⟩, by simp, by simpa using hc⟩
  obtain rfl : j = 0 := by simp at hj; omega
  simp [World.cell?, h]
theorem bsl_keep {w : World} {g p c : Nat} {t : TypeId} {fr : Nat × Nat} (h : w.heap[p]? = some (.cells #[.int .u8 (c : Nat)] t fr)) (hp : p ≠ g) (hc : c < 256) : ∀ wy, Kp (fun q => q = g) w wy → BSl wy (.slice (some ⟨p, 0, none⟩) 1 1) [c] := fun _ hy => bsl_blk ((hy.block _ (blk_lt h) hp).trans h) hc
/-- A row of one block. -/
theorem KSl.one {w : World} {g p : Nat} {l : Lk} {b : List Nat} {vb : Value} (h : w.heap[p]? = some (.cells (bcs (l, b) vb) 41 (0, 0))) (hp : p ≠ g) (hb : ∀ wy, Kp (fun q => q = g) w wy → BSl wy vb b) (hl : Lkx l) (hn : b.length ≤ 140737488351232) : ∀ wy, Kp (fun q => q = g) w wy → KSl wy (.slice (some ⟨p, 0, none⟩) 1 1) [(l, b)] := fun wy hy => by
  refine ⟨⟨_, 1, rfl, ⟨Nat.le_refl _, fun h => by cases h⟩, .inr ⟨p, 0, rfl, fun i x hx => ?_⟩⟩, by simp⟩
  rcases i with _ | i
  · obtain rfl : (l, b) = x := by simpa using hx
    have hbk := (hy.block _ (blk_lt h) hp).trans h
    refine ⟨bcs (l, b) vb, ⟨⟨_, rfl, hb wy hy⟩, hl, hn⟩, fun j u hj => ?_⟩
    rw [show 0 + 0 * 5 + j = j by omega]
    exact blk_cell hbk hj
  · simp at hx
structure Wkl (w wx : World) (g B : Nat) (l : Lk) (p : Nat) : Prop where
  n : Nst w wx g B 1 [(l, [97])]
  lb : wx.heap[p]? = some (.cells (lcs l) 29 (0, 0))
theorem Wkl.next {w wx wy : World} {g B p : Nat} {l : Lk} (h : Wkl w wx g B l p) (hb : Below wx.heap.size wx wy) : Wkl w wy g B l p := ⟨h.n.next hb, (hb.block _ (blk_lt h.lb)).trans h.lb⟩
theorem Wkl.of {w wx wy : World} {g B p : Nat} {l : Lk} (h : Wkl w wx g B l p) (hs : Sto wy g B 1 [(l, [97])]) (hk : Kp (fun q => q = g ∨ q = B) wx wy) : Wkl w wy g B l p := ⟨h.n.of hs hk, (hk.block _ (blk_lt h.lb) (fun e => by
  rcases e with e | e
  · exact ne_of_type h.lb h.n.s.c (by decide) e
  · exact h.n.s.m.ne h.lb e)).trans h.lb⟩
structure Wkb (w wx : World) (g B : Nat) (l : Lk) (p : Nat) (v : Value) : Prop where
  l : Wkl w wx g B l p
  b : BSl wx v [97]
  o : ∀ k, v.ownBlock = some k → k ≠ g ∧ k ≠ B
theorem Wkb.next {w wx wy : World} {g B p : Nat} {l : Lk} {v : Value} (h : Wkb w wx g B l p v) (hb : Below wx.heap.size wx wy) : Wkb w wy g B l p v := ⟨h.l.next hb, h.b.move (keep_below hb), h.o⟩
theorem Wkb.of {w wx wy : World} {g B p : Nat} {l : Lk} {v : Value} (h : Wkb w wx g B l p v) (hs : Sto wy g B 1 [(l, [97])]) (hk : Kp (fun q => q = g ∨ q = B) wx wy) : Wkb w wy g B l p v := ⟨h.l.of hs hk, hk.bsl h.b (fun k e => by have := h.o k e; omega), h.o⟩
theorem aggLk (w : World) : (isAgg 29).run Tryd.prog w = .ok true w := by
  unfold isAgg
  rw [Sem.run_bind, run_underlying Tryd.underlying29 w]
  simp
theorem works_facts : ∃ l : Lk, Lkx l ∧ (⟨1, 85, 18, sha [97]⟩ : Lk) = l ∧ putr13 1 [] 85 [97] = ((l, 0), [(l, [97])]) ∧ getr13 [(l, [97])] l = ([97], 0) ∧ addr13 1 [(l, [97])] [(l, [98])] = ((0, 137), [(l, [97])]) ∧ putr13 1 [(l, [97])] 85 [99] = ((Lk.none, 135), [(l, [97])]) :=
  ⟨la13, ⟨⟨by decide, by decide, sha_byte [97], by show (sha [97]).length ≤ _; rw [sha_len]; decide⟩, by decide⟩, rfl, putr_a, getr_a, addr_b, putr_c⟩
set_option maxRecDepth 1000000 in
set_option maxHeartbeats 2000000 in
theorem works13_any (w : World) (hcb : Cb w) : Calls Tryd.prog 8 #[] w fun e w' => e = .returned (.bool true) ∧ Below w.heap.size w w' := by
  have HCB := hide hcb
  have HNW := hide (new13_any w 1 ⟨Nat.le_refl _, by decide⟩)
  have HNM : Hid (∀ (w : World) (n : Int), Calls Tryd.prog 7 #[.int .i64 n] w fun e w' => e = .returned (.int .i64 n) ∧ w' = w) := num13_any
  clear hcb
  go_enter Tryd.func8, Tryd.ntmps8
  go_upto_region 4 with (first
    | (go_at_call 5; refine HNW.out.mono ?_; rintro e w1 ⟨rfl, hp1⟩)
    | (go_at_call 7; refine (HNM.out _ _).mono ?_; rintro e wq ⟨rfl, rfl⟩))
  obtain ⟨l, hlx, hl1, hpa, hga, hab, hpc⟩ := works_facts
  have HLX := hide hlx
  have HL1 := hide hl1
  have HGA := hide hga
  have HAB := hide hab
  have HPC := hide hpc
  have HN1 : Hid (Nst w wq (w.heap.size + 1) w.heap.size 1 []) := ⟨hp1.out.1, hp1.out.2, by omega, Nat.le_refl _⟩
  generalize hgg : w.heap.size + 1 = g at *
  obtain ⟨B, hB⟩ : ∃ B, w.heap.size = B := ⟨_, rfl⟩
  rw [hB] at HN1
  have HGZ : Hid (g < wq.heap.size) := blk_lt HN1.out.s.c
  have HP1 : Hid (Calls Tryd.prog 13 #[.pointer (some ⟨g, 0, none⟩), .int .u64 85, .slice (some ⟨wq.heap.size, 0, none⟩) 1 1] (wq.alloc (.cells #[.int .u8 97] 5 (1, 2))) fun e w' => e = .returned (.tuple #[.agg #[.int .i64 l.v, .int .u64 (l.c : Nat), .int .u64 (l.h : Nat), .string (nstr l.d)], .int .i64 0]) ∧ Hid (Nst w w' g B 1 [(l, [97])])) := by
    have h := put13_any (wq.alloc (.cells #[.int .u8 97] 5 (1, 2))) g B 1 [] ((HN1.out.next (below_alloc4 wq _)).s) 85 (by decide) (.slice (some ⟨wq.heap.size, 0, none⟩) 1 1) [97] (bsl_keep (c := 97) (heap_alloc_new wq (.cells #[.int .u8 97] 5 (1, 2))) (by have := HGZ.out; omega) (by decide)) (by decide) ((HN1.out.next (below_alloc4 wq _)).cb (HCB.out))
    rw [hpa] at h
    refine h.mono ?_
    rintro e w' ⟨he, hs, hk⟩
    exact ⟨he, (HN1.out.next (below_alloc4 wq _)).of hs hk⟩
  clear hlx hl1 hpa hga hab hpc hp1 hgg hB
  have cv1 := litc wq 97
  go_upto_region 5 with (go_at_call 13; refine HP1.out.mono ?_; rintro e w3 ⟨rfl, hN3⟩)
  have HW4 : Hid (Wkl w (w3.alloc (.cells #[.int .i64 l.v, .int .u64 (l.c : Nat), .int .u64 (l.h : Nat), .string (nstr l.d)] 29)) g B l w3.heap.size) := ⟨hN3.out.next (below_alloc4 w3 _), heap_alloc_new w3 _⟩
  clear HP1 HN1 HGZ hN3 cv1
  generalize w3.alloc (.cells #[.int .i64 l.v, .int .u64 (l.c : Nat), .int .u64 (l.h : Nat), .string (nstr l.d)] 29) = w4 at *
  generalize w3.heap.size = p at *
  have HG4 : Hid (Calls Tryd.prog 16 #[.pointer (some ⟨g, 0, none⟩), .agg #[.int .i64 l.v, .int .u64 (l.c : Nat), .int .u64 (l.h : Nat), .string (nstr l.d)]] w4 fun e w' => ∃ (a : Option Addr) (cap : Nat), e = .returned (.tuple #[.slice a 1 cap, .int .i64 0]) ∧ Hid (Wkb w w' g B l p (.slice a 1 cap))) := by
    have h := get13_any w4 g B 1 [(l, [97])] HW4.out.n.s l HLX.out (HW4.out.n.cb HCB.out)
    refine h.mono ?_
    rintro e w' ⟨⟨v, he, hb, ho⟩, hs, hk⟩
    rw [HGA.out] at he hb
    have hb2 := hb
    obtain ⟨⟨a, cap, rfl, -, -⟩, -⟩ := hb2
    exact ⟨a, cap, he, HW4.out.of hs (hk.mono (fun _ _ e => .inl e)), hb, fun k hk2 => by
      have h1 := ho k hk2
      have h2 := blk_lt HW4.out.n.s.c
      have h3 := HW4.out.n.s.m.lt
      omega⟩
  have d0 : w4.cell? ⟨p, 0, none⟩ = some (.int .i64 l.v) := blk_cell (j := 0) HW4.out.lb rfl
  have d1 : w4.cell? ⟨p, 1, none⟩ = some (.int .u64 (l.c : Nat)) := blk_cell (j := 1) HW4.out.lb rfl
  have d2 : w4.cell? ⟨p, 2, none⟩ = some (.int .u64 (l.h : Nat)) := blk_cell (j := 2) HW4.out.lb rfl
  have d3 : w4.cell? ⟨p, 3, none⟩ = some (.string (nstr l.d)) := blk_cell (j := 3) HW4.out.lb rfl
  go_upto_region 6 with (go_at_call 16; refine HG4.out.mono ?_; rintro e w5 ⟨a, cap, rfl, HW5⟩)
  clear d0 d1 d2 d3 HW4 HG4
  have d0 : w5.cell? ⟨p, 0, none⟩ = some (.int .i64 l.v) := blk_cell (j := 0) HW5.out.l.lb rfl
  have d1 : w5.cell? ⟨p, 1, none⟩ = some (.int .u64 (l.c : Nat)) := blk_cell (j := 1) HW5.out.l.lb rfl
  have d2 : w5.cell? ⟨p, 2, none⟩ = some (.int .u64 (l.h : Nat)) := blk_cell (j := 2) HW5.out.l.lb rfl
  have d3 : w5.cell? ⟨p, 3, none⟩ = some (.string (nstr l.d)) := blk_cell (j := 3) HW5.out.l.lb rfl
  have cv2 := litc w5 98
  have hz5 : (w5.alloc (.cells #[.int .u8 98] 5 (1, 2))).heap.size = w5.heap.size + 1 := by simp
  have HB6 : Hid (Below w5.heap.size w5 ((w5.alloc (.cells #[.int .u8 98] 5 (1, 2))).alloc (.cells #[.int .i64 l.v, .int .u64 (l.c : Nat), .int .u64 (l.h : Nat), .string (nstr l.d), .slice (some ⟨w5.heap.size, 0, none⟩) 1 1] 41))) := (below_alloc4 w5 _).trans ((below_alloc4 _ _).mono (by rw [hz5]; omega))
  have HW6 := hide (HW5.out.next HB6.out)
  have HGZ5 : Hid (g < w5.heap.size) := blk_lt HW5.out.l.n.s.c
  have HA6 : Hid (Calls Tryd.prog 14 #[.pointer (some ⟨g, 0, none⟩), .slice (some ⟨w5.heap.size + 1, 0, none⟩) 1 1] ((w5.alloc (.cells #[.int .u8 98] 5 (1, 2))).alloc (.cells #[.int .i64 l.v, .int .u64 (l.c : Nat), .int .u64 (l.h : Nat), .string (nstr l.d), .slice (some ⟨w5.heap.size, 0, none⟩) 1 1] 41)) fun e w' => e = .returned (.tuple #[.int .i64 0, .int .i64 137]) ∧ Hid (Wkb w w' g B l p (.slice a 1 cap))) := by
    have hnew := heap_alloc_new (w5.alloc (.cells #[.int .u8 98] 5 (1, 2))) (.cells #[.int .i64 l.v, .int .u64 (l.c : Nat), .int .u64 (l.h : Nat), .string (nstr l.d), .slice (some ⟨w5.heap.size, 0, none⟩) 1 1] 41)
    rw [hz5] at hnew
    have hg5 := HGZ5.out
    have hby := blk_alloc (.cells #[.int .i64 l.v, .int .u64 (l.c : Nat), .int .u64 (l.h : Nat), .string (nstr l.d), .slice (some ⟨w5.heap.size, 0, none⟩) 1 1] 41) (heap_alloc_new w5 (.cells #[.int .u8 98] 5 (1, 2)))
    have h := Adds13_any ((w5.alloc (.cells #[.int .u8 98] 5 (1, 2))).alloc (.cells #[.int .i64 l.v, .int .u64 (l.c : Nat), .int .u64 (l.h : Nat), .string (nstr l.d), .slice (some ⟨w5.heap.size, 0, none⟩) 1 1] 41)) g B 1 [(l, [97])] HW6.out.l.n.s (.slice (some ⟨w5.heap.size + 1, 0, none⟩) 1 1) [(l, [98])] (KSl.one (b := [98]) hnew (by omega) (bsl_keep (c := 98) hby (by omega) (by decide)) HLX.out (by decide)) (by simp) (HW6.out.l.n.cb HCB.out)
    rw [HAB.out] at h
    refine h.mono ?_
    rintro e w' ⟨he, hs, hk⟩
    exact ⟨he, HW6.out.of hs hk⟩
  clear hz5 HB6 HW6 HW5
  go_upto_region 7 with (go_at_call 14; refine HA6.out.mono ?_; rintro e w7 ⟨rfl, HW7⟩)
  clear d0 d1 d2 d3 HA6 cv2 HGZ5
  have cv3 := litc w7 99
  have HW8 := hide (HW7.out.next (below_alloc4 w7 (.cells #[.int .u8 99] 5 (1, 2))))
  have HGZ7 : Hid (g < w7.heap.size) := blk_lt HW7.out.l.n.s.c
  have HP8 : Hid (Calls Tryd.prog 13 #[.pointer (some ⟨g, 0, none⟩), .int .u64 85, .slice (some ⟨w7.heap.size, 0, none⟩) 1 1] (w7.alloc (.cells #[.int .u8 99] 5 (1, 2))) fun e w' => e = .returned (.tuple #[.agg #[.int .i64 0, .int .u64 0, .int .u64 0, .string ⟨#[]⟩], .int .i64 135]) ∧ Hid (Wkb w w' g B l p (.slice a 1 cap))) := by
    have h := put13_any (w7.alloc (.cells #[.int .u8 99] 5 (1, 2))) g B 1 [(l, [97])] HW8.out.l.n.s 85 (by decide) (.slice (some ⟨w7.heap.size, 0, none⟩) 1 1) [99] (bsl_keep (c := 99) (heap_alloc_new w7 (.cells #[.int .u8 99] 5 (1, 2))) (by have := HGZ7.out; omega) (by decide)) (by decide) (HW8.out.l.n.cb HCB.out)
    rw [HPC.out] at h
    refine h.mono ?_
    rintro e w' ⟨he, hs, hk⟩
    exact ⟨he, HW8.out.of hs hk⟩
  clear HW7 HW8 HGZ7
  go_upto_region 8 with (go_at_call 13; refine HP8.out.mono ?_; rintro e w9 ⟨rfl, HW9⟩)
  have HWa := hide (HW9.out.next (below_alloc4 w9 (.cells #[.int .i64 0, .int .u64 0, .int .u64 0, .string ⟨#[]⟩] 29)))
  clear HP8 HW9 cv3
  generalize w9.alloc (.cells #[.int .i64 0, .int .u64 0, .int .u64 0, .string ⟨#[]⟩] 29) = wa at *
  refine heldStart (S := fun wq => Wkb w wq g B l p (.slice a 1 cap)) (by kernel_rfl) ?_
  have hS : Wkb w wa.drew g B l p (.slice a 1 cap) := HWa.out.next (Below.drew (Below.refl _ _))
  refine heldTake 0 _ rfl (by kernel_rfl) (by kernel_rfl) (by kernel_rfl) (fun _ _ _ h => h) rfl hS (fun wy hy => by first | (go_simp; done) | (go_simp; rfl) | rfl) ?_
  (try simp only [Act.put]); (try simp only [List.setIfInBounds_toArray, List.set_cons_zero, List.set_cons_succ])
  refine heldStep 1 rfl (by kernel_rfl) (fun K hK => ?_)
  go_simp
  refine (HNM.out _ _).mono ?_
  rintro e wq1 ⟨rfl, rfl⟩
  refine (Hid.out hK) _ _ hS (fun hS2 => ?_)
  clear hK K hS
  have hS := hS2
  clear hS2
  (try simp only [Act.put]); (try simp only [List.setIfInBounds_toArray, List.set_cons_zero, List.set_cons_succ])
  refine heldTake 2 _ rfl (by kernel_rfl) (by kernel_rfl) (by kernel_rfl) (fun _ _ _ h => h) rfl hS (fun wy hy => by first | (go_simp; done) | (go_simp; rfl) | rfl) ?_
  (try simp only [Act.put]); (try simp only [List.setIfInBounds_toArray, List.set_cons_zero, List.set_cons_succ])
  refine heldTake 3 _ rfl (by kernel_rfl) (by kernel_rfl) (by kernel_rfl) (fun _ _ _ h => h) rfl hS (fun wy hy => by first | (go_simp; done) | (go_simp; rfl) | rfl) ?_
  (try simp only [Act.put]); (try simp only [List.setIfInBounds_toArray, List.set_cons_zero, List.set_cons_succ])
  refine heldTake 4 _ rfl (by kernel_rfl) (by kernel_rfl) (by kernel_rfl) (fun _ _ _ h => h) rfl hS (fun wy hy => by first | (go_simp; done) | (go_simp; rfl) | rfl) ?_
  (try simp only [Act.put]); (try simp only [List.setIfInBounds_toArray, List.set_cons_zero, List.set_cons_succ])
  refine heldStep 5 rfl (by kernel_rfl) (fun K hK => ?_)
  go_simp
  refine (HNM.out _ _).mono ?_
  rintro e wq2 ⟨rfl, rfl⟩
  refine (Hid.out hK) _ _ hS (fun hS2 => ?_)
  clear hK K hS
  have hS := hS2
  clear hS2
  (try simp only [Act.put]); (try simp only [List.setIfInBounds_toArray, List.set_cons_zero, List.set_cons_succ])
  refine heldTake 6 _ rfl (by kernel_rfl) (by kernel_rfl) (by kernel_rfl) (fun _ _ _ h => h) rfl hS (fun wy hy => by first | (go_simp; done) | (go_simp; rfl) | rfl) ?_
  (try simp only [Act.put]); (try simp only [List.setIfInBounds_toArray, List.set_cons_zero, List.set_cons_succ])
  refine heldTake 7 _ rfl (by kernel_rfl) (by kernel_rfl) (by kernel_rfl) (fun _ _ _ h => h) rfl hS (fun wy hy => by first | (go_simp; done) | (go_simp; rfl) | rfl) ?_
  (try simp only [Act.put]); (try simp only [List.setIfInBounds_toArray, List.set_cons_zero, List.set_cons_succ])
  refine heldTake 8 _ rfl (by kernel_rfl) (by kernel_rfl) (by kernel_rfl) (fun _ _ _ h => h) rfl hS (fun wy hy => by first | (go_simp; done) | (go_simp; rfl) | rfl) ?_
  (try simp only [Act.put]); (try simp only [List.setIfInBounds_toArray, List.set_cons_zero, List.set_cons_succ])
  refine heldTake 9 _ rfl (by kernel_rfl) (by kernel_rfl) (by kernel_rfl) (fun _ _ _ h => h) rfl hS (fun wy hy => by first | (go_simp; done) | (go_simp; rfl) | rfl) ?_
  (try simp only [Act.put]); (try simp only [List.setIfInBounds_toArray, List.set_cons_zero, List.set_cons_succ])
  refine heldTake 10 _ rfl (by kernel_rfl) (by kernel_rfl) (by kernel_rfl) (fun _ _ _ h => h) rfl hS (fun wq hq => by have h0 := hq.b.text; rw [show nstr [97] = ⟨#[97]⟩ from rfl] at h0; first | (go_simp; done) | (go_simp; rfl) | rfl) ?_
  (try simp only [Act.put]); (try simp only [List.setIfInBounds_toArray, List.set_cons_zero, List.set_cons_succ])
  refine heldTake 11 _ rfl (by kernel_rfl) (by kernel_rfl) (by kernel_rfl) (fun _ _ _ h => h) rfl hS (fun wy hy => by first | (go_simp; done) | (go_simp; rfl) | rfl) ?_
  (try simp only [Act.put]); (try simp only [List.setIfInBounds_toArray, List.set_cons_zero, List.set_cons_succ])
  refine heldTake 12 _ rfl (by kernel_rfl) (by kernel_rfl) (by kernel_rfl) (fun _ _ _ h => h) rfl hS (fun wy hy => by first | (go_simp; done) | (go_simp; rfl) | rfl) ?_
  (try simp only [Act.put]); (try simp only [List.setIfInBounds_toArray, List.set_cons_zero, List.set_cons_succ])
  refine heldTake 13 _ rfl (by kernel_rfl) (by kernel_rfl) (by kernel_rfl) (fun _ _ _ h => h) rfl hS (fun wy hy => by first | (go_simp; done) | (go_simp; rfl) | rfl) ?_
  (try simp only [Act.put]); (try simp only [List.setIfInBounds_toArray, List.set_cons_zero, List.set_cons_succ])
  refine heldTake 14 _ rfl (by kernel_rfl) (by kernel_rfl) (by kernel_rfl) (fun _ _ _ h => h) rfl hS (fun wy hy => by first | (go_simp; done) | (go_simp; rfl) | rfl) ?_
  (try simp only [Act.put]); (try simp only [List.setIfInBounds_toArray, List.set_cons_zero, List.set_cons_succ])
  refine heldStep 15 rfl (by kernel_rfl) (fun K hK => ?_)
  go_simp
  refine (HNM.out _ _).mono ?_
  rintro e wq3 ⟨rfl, rfl⟩
  refine (Hid.out hK) _ _ hS (fun hS2 => ?_)
  clear hK K hS
  have hS := hS2
  clear hS2
  (try simp only [Act.put]); (try simp only [List.setIfInBounds_toArray, List.set_cons_zero, List.set_cons_succ])
  refine heldTake 16 _ rfl (by kernel_rfl) (by kernel_rfl) (by kernel_rfl) (fun _ _ _ h => h) rfl hS (fun wy hy => by first | (go_simp; done) | (go_simp; rfl) | rfl) ?_
  (try simp only [Act.put]); (try simp only [List.setIfInBounds_toArray, List.set_cons_zero, List.set_cons_succ])
  refine heldTake 17 _ rfl (by kernel_rfl) (by kernel_rfl) (by kernel_rfl) (fun _ _ _ h => h) rfl hS (fun wy hy => by first | (go_simp; done) | (go_simp; rfl) | rfl) ?_
  (try simp only [Act.put]); (try simp only [List.setIfInBounds_toArray, List.set_cons_zero, List.set_cons_succ])
  refine heldTake 18 _ rfl (by kernel_rfl) (by kernel_rfl) (by kernel_rfl) (fun _ _ _ h => h) rfl hS (fun wy hy => by first | (go_simp; done) | (go_simp; rfl) | rfl) ?_
  (try simp only [Act.put]); (try simp only [List.setIfInBounds_toArray, List.set_cons_zero, List.set_cons_succ])
  refine heldTake 19 _ rfl (by kernel_rfl) (by kernel_rfl) (by kernel_rfl) (fun _ _ _ h => h) rfl hS (fun wy hy => by first | (go_simp; done) | (go_simp; rfl) | rfl) ?_
  (try simp only [Act.put]); (try simp only [List.setIfInBounds_toArray, List.set_cons_zero, List.set_cons_succ])
  refine heldStep 20 rfl (by kernel_rfl) (fun K hK => ?_)
  go_simp
  refine (HNM.out _ _).mono ?_
  rintro e wq4 ⟨rfl, rfl⟩
  refine (Hid.out hK) _ _ hS (fun hS2 => ?_)
  clear hK K hS
  have hS := hS2
  clear hS2
  (try simp only [Act.put]); (try simp only [List.setIfInBounds_toArray, List.set_cons_zero, List.set_cons_succ])
  refine heldTake 21 _ rfl (by kernel_rfl) (by kernel_rfl) (by kernel_rfl) (fun _ _ _ h => h) rfl hS (fun wy hy => by first | (go_simp; done) | (go_simp; rfl) | rfl) ?_
  (try simp only [Act.put]); (try simp only [List.setIfInBounds_toArray, List.set_cons_zero, List.set_cons_succ])
  refine heldTake 22 _ rfl (by kernel_rfl) (by kernel_rfl) (by kernel_rfl) (fun _ _ _ h => h) rfl hS (fun wy hy => by first | (go_simp; done) | (go_simp; rfl) | rfl) ?_
  (try simp only [Act.put]); (try simp only [List.setIfInBounds_toArray, List.set_cons_zero, List.set_cons_succ])
  refine heldTake 23 _ rfl (by kernel_rfl) (by kernel_rfl) (by kernel_rfl) (fun _ _ _ h => h) rfl hS (fun wy hy => by first | (go_simp; done) | (go_simp; rfl) | rfl) ?_
  (try simp only [Act.put]); (try simp only [List.setIfInBounds_toArray, List.set_cons_zero, List.set_cons_succ])
  refine heldTake 24 _ rfl (by kernel_rfl) (by kernel_rfl) (by kernel_rfl) (fun _ _ _ h => h) rfl hS (fun wy hy => by first | (go_simp; done) | (go_simp; rfl) | rfl) ?_
  (try simp only [Act.put]); (try simp only [List.setIfInBounds_toArray, List.set_cons_zero, List.set_cons_succ])
  refine heldStep 25 rfl (by kernel_rfl) (fun K hK => ?_)
  go_simp
  refine (len13_any _ g B 1 _ hS.l.n.s).mono ?_
  rintro e wl ⟨rfl, hsl, hkl⟩
  have hSl : Wkb w wl g B l p (.slice a 1 cap) := hS.of hsl (hkl.mono (fun _ _ e => .inl e))
  rw [show (([(l, [97])] : List Blk).length : Int) = 1 from rfl]
  refine (Hid.out hK) _ _ hSl (fun hS2 => ?_)
  clear hK K hS
  have hS := hS2
  clear hS2
  (try simp only [Act.put]); (try simp only [List.setIfInBounds_toArray, List.set_cons_zero, List.set_cons_succ])
  have HSL := hide hSl
  clear hsl hkl hSl
  refine heldTake 26 _ rfl (by kernel_rfl) (by kernel_rfl) (by kernel_rfl) (fun _ _ _ h => h) rfl hS (fun wy hy => by first | (go_simp; done) | (go_simp; rfl) | rfl) ?_
  (try simp only [Act.put]); (try simp only [List.setIfInBounds_toArray, List.set_cons_zero, List.set_cons_succ])
  refine heldTake 27 _ rfl (by kernel_rfl) (by kernel_rfl) (by kernel_rfl) (fun _ _ _ h => h) rfl hS (fun wy hy => by first | (go_simp; done) | (go_simp; rfl) | rfl) ?_
  (try simp only [Act.put]); (try simp only [List.setIfInBounds_toArray, List.set_cons_zero, List.set_cons_succ])
  refine heldTake 28 _ rfl (by kernel_rfl) (by kernel_rfl) (by kernel_rfl) (fun _ _ _ h => h) rfl hS (fun wy hy => by first | (go_simp; done) | (go_simp; rfl) | rfl) ?_
  (try simp only [Act.put]); (try simp only [List.setIfInBounds_toArray, List.set_cons_zero, List.set_cons_succ])
  refine heldTake 29 _ rfl (by kernel_rfl) (by kernel_rfl) (by kernel_rfl) (fun _ _ _ h => h) rfl hS (fun wq hq => exec_aggAt (g := p) (off := 0) (cs := #[.int .i64 l.v, .int .u64 (l.c : Nat), .int .u64 (l.h : Nat), .string (nstr l.d)]) info61 aggLk rfl rfl rfl (fun j u hj => by rw [Nat.zero_add]; exact blk_cell hq.l.lb hj)) ?_
  (try simp only [Act.put]); (try simp only [List.setIfInBounds_toArray, List.set_cons_zero, List.set_cons_succ])
  refine heldStep 30 rfl (by kernel_rfl) (fun K hK => ?_)
  go_simp
  have hS5 : Wkb w (wl.alloc (.cells #[.int .u8 97] 5)) g B l p (.slice a 1 cap) := HSL.out.next (below_alloc4 wl _)
  refine (Hid.out hK) _ _ hS5 (fun hS2 => ?_)
  clear hK K hS
  have hS := hS2
  clear hS2
  (try simp only [Act.put]); (try simp only [List.setIfInBounds_toArray, List.set_cons_zero, List.set_cons_succ])
  have cv4 := litc wl 97
  refine heldStep 31 rfl (by kernel_rfl) (fun K hK => ?_)
  go_simp
  have hS6 : Wkb w (wl.alloc (.cells #[.int .u8 97] 5 (1, 2))) g B l p (.slice a 1 cap) := HSL.out.next (below_alloc4 wl _)
  refine (Hid.out hK) _ _ hS6 (fun hS2 => ?_)
  clear hK K hS
  have hS := hS2
  clear hS2
  (try simp only [Act.put]); (try simp only [List.setIfInBounds_toArray, List.set_cons_zero, List.set_cons_succ])
  refine heldStep 32 rfl (by kernel_rfl) (fun K hK => ?_)
  go_simp
  have HNA : Hid (Calls Tryd.prog 17 #[.int .u64 85, .slice (some ⟨wl.heap.size, 0, none⟩) 1 1] (wl.alloc (.cells #[.int .u8 97] 5 (1, 2))) fun e w' => e = .returned (.agg #[.int .i64 l.v, .int .u64 (l.c : Nat), .int .u64 (l.h : Nat), .string (nstr l.d)]) ∧ Below (wl.alloc (.cells #[.int .u8 97] 5 (1, 2))).heap.size (wl.alloc (.cells #[.int .u8 97] 5 (1, 2))) w') := by
    have h := name13_any (wl.alloc (.cells #[.int .u8 97] 5 (1, 2))) 85 (.slice (some ⟨wl.heap.size, 0, none⟩) 1 1) [97] (bsl_blk (c := 97) (heap_alloc_new wl (.cells #[.int .u8 97] 5 (1, 2))) (by decide)) (by decide)
    rw [HL1.out] at h
    exact h
  refine HNA.out.mono ?_
  rintro e wm ⟨rfl, hbm⟩
  have hS7 : Wkb w wm g B l p (.slice a 1 cap) := hS.next hbm
  refine (Hid.out hK) _ _ hS7 (fun hS2 => ?_)
  clear hK K hS
  have hS := hS2
  clear hS2
  (try simp only [Act.put]); (try simp only [List.setIfInBounds_toArray, List.set_cons_zero, List.set_cons_succ])
  have HEQ : Hid (∀ wq, (Op.equalIn 10000 29 (.agg #[.int .i64 l.v, .int .u64 (l.c : Nat), .int .u64 (l.h : Nat), .string (nstr l.d)]) (.agg #[.int .i64 l.v, .int .u64 (l.c : Nat), .int .u64 (l.h : Nat), .string (nstr l.d)])).run Tryd.prog wq = .ok true wq) := fun wq => by
    have h := eqlk wq (a := l) (b := l) HLX.out.d HLX.out.d
    rw [decide_eq_true rfl] at h
    exact h
  refine heldTake 33 _ rfl (by kernel_rfl) (by kernel_rfl) (by kernel_rfl) (fun _ _ _ h => h) rfl hS (fun wq hq => exec_eqlk rfl rfl rfl (HEQ.out wq)) ?_
  (try simp only [Act.put]); (try simp only [List.setIfInBounds_toArray, List.set_cons_zero, List.set_cons_succ])
  refine heldTake 34 _ rfl (by kernel_rfl) (by kernel_rfl) (by kernel_rfl) (fun _ _ _ h => h) rfl hS (fun wy hy => by first | (go_simp; done) | (go_simp; rfl) | rfl) ?_
  (try simp only [Act.put]); (try simp only [List.setIfInBounds_toArray, List.set_cons_zero, List.set_cons_succ])
  refine heldTake 35 _ rfl (by kernel_rfl) (by kernel_rfl) (by kernel_rfl) (fun _ _ _ h => h) rfl hS (fun wy hy => by first | (go_simp; done) | (go_simp; rfl) | rfl) ?_
  simp only [Act.put]
  simp only [List.setIfInBounds_toArray, List.set_cons_zero]
  refine heldDone (by kernel_rfl) ?_
  have HBE := hide hS.l.n.b
  clear hS hS5 hS6 hS7 hbm
  go_wp2_with fail
  go_ret
  exact ⟨rfl, HBE.out⟩
end
section
open Go.RowKit Go
/-! ### StoreLong -/
theorem made13 (c : Nat) : madeCells (Value.int .u8 0).cells c = (bv (List.replicate c 0)).toArray := by
  apply Array.ext'
  simp only [madeCells, Value.cells, bv, List.map_replicate]
  apply List.ext_getElem
  · simp
  · intro j h1 h2
    simp [Nat.mod_one]
theorem mk13 (w : World) (c : Nat) (hc : c ≤ 100000000) : (Instr.makeSlice 34 (.int .i64 (c : Nat)) (.int .i64 (c : Nat))).run Tryd.prog w = .ok (.slice (some ⟨w.heap.size, 0, none⟩) c c) (w.alloc (.cells (bv (List.replicate c 0)).toArray 5)) := by
  obtain ⟨i5, hi, hz0, hz1, hz2⟩ := info5_ex
  have hr := run_make (P := Tryd.prog) w 34 5 i5 (.int .u8 0) Tryd.underlying34 hi hz0 .i64 .i64 c c (by omega) (by omega) (by rw [hz2]; omega) (by omega)
  simp only [Int.toNat_natCast, hz1, Nat.mul_one, made13] at hr
  exact hr
theorem bsl_row {w : World} {g p : Nat} {xs : List Nat} {n : Nat} {t : TypeId} (h : w.heap[p]? = some (.cells (bv xs).toArray t (0, 0))) (hp : p ≠ g) (hb : ∀ x ∈ xs, x < 256) (hl : xs.length ≤ 9223372036854775807) (hn : xs.length = n) : ∀ wy, Kp (fun q => q = g) w wy → BSl wy (.slice (some ⟨p, 0, none⟩) n n) xs := fun _ hy => by
  subst hn
  exact bsl_block ((hy.block _ (blk_lt h) hp).trans h) hb hl
theorem long_facts : ∃ l : Lk, Lkx l ∧ lof 85 [] = (l, 0) ∧ (∀ n, n ≤ 67108864 → forr13 1 [] l (List.replicate n 0) = (0, [(l, List.replicate n 0)])) ∧ (∀ n, 67108864 < n → putr13 1 [] 85 (List.replicate n 0) = ((Lk.none, 133), []) ∧ addr13 1 [] [(l, List.replicate n 0)] = ((0, 133), []) ∧ addr13 1 [] [(Lk.none, List.replicate n 0)] = ((0, 132), []) ∧ forr13 1 [] l (List.replicate n 0) = (133, [])) := by
  have hok : lok ⟨1, 85, 18, sha []⟩ := .inr ⟨rfl, by decide, .inl ⟨rfl, sha_len []⟩⟩
  have hf : ∀ n, n ≤ 67108864 → fit13 (⟨1, 85, 18, sha []⟩, List.replicate n 0) = 0 := fun n hn => by
    unfold fit13
    rw [if_pos ⟨hok, rfl⟩, if_neg (by simp; omega)]
  have hg : ∀ n, 67108864 < n → fit13 (⟨1, 85, 18, sha []⟩, List.replicate n 0) = 133 := fun n hn => by
    unfold fit13
    rw [if_pos ⟨hok, rfl⟩, if_pos (by simpa using hn)]
  have hz : ∀ b, fit13 (Lk.none, b) = 132 := fun b => by
    unfold fit13
    rw [if_neg (fun h => by rcases h.1 with h | h <;> simp [Lk.none] at h)]
  refine ⟨⟨1, 85, 18, sha []⟩, ⟨⟨by decide, by decide, sha_byte [], by show (sha []).length ≤ _; rw [sha_len]; decide⟩, by decide⟩, rfl, fun n hn => ?_, fun n hn => ⟨?_, ?_, ?_, ?_⟩⟩
  · unfold forr13
    rw [if_pos (hf n hn), if_neg (by simp)]
    simp [putB, delB]
  · unfold putr13
    rw [if_pos (by decide), if_pos (by simpa using hn)]
  · unfold addr13
    rw [frt, hg n hn, if_neg (by decide)]
    unfold layr
    simp [drf]
  · unfold addr13
    rw [frt, hz, if_neg (by decide)]
    unfold layr
    simp [drf]
  · unfold forr13
    rw [hg n hn, if_neg (by decide)]
structure Slw (w wx : World) (g B : Nat) (L : List Blk) (l : Lk) (p bp k : Nat) : Prop where
  n : Nst w wx g B 1 L
  lb : wx.heap[p]? = some (.cells (lcs l) 29 (0, 0))
  bb : wx.heap[bp]? = some (.cells (bv (List.replicate k 0)).toArray 5 (0, 0))
theorem Slw.next {w wx wy : World} {g B : Nat} {L : List Blk} {l : Lk} {p bp n : Nat} (h : Slw w wx g B L l p bp n) (hb : Below wx.heap.size wx wy) : Slw w wy g B L l p bp n := ⟨h.n.next hb, (hb.block _ (blk_lt h.lb)).trans h.lb, (hb.block _ (blk_lt h.bb)).trans h.bb⟩
theorem Slw.bg {w wx : World} {g B : Nat} {L : List Blk} {l : Lk} {p bp n : Nat} (h : Slw w wx g B L l p bp n) : bp ≠ g := ne_of_type h.bb h.n.s.c (by decide)
theorem Slw.of {w wx wy : World} {g B : Nat} {L M : List Blk} {l : Lk} {p bp n : Nat} (h : Slw w wx g B L l p bp n) (hs : Sto wy g B 1 M) (hk : Kp (fun q => q = g ∨ q = B) wx wy) : Slw w wy g B M l p bp n := by
  refine ⟨h.n.of hs hk, (hk.block _ (blk_lt h.lb) (fun e => ?_)).trans h.lb, (hk.block _ (blk_lt h.bb) (fun e => ?_)).trans h.bb⟩
  · rcases e with e | e
    · exact ne_of_type h.lb h.n.s.c (by decide) e
    · exact h.n.s.m.ne h.lb e
  · rcases e with e | e
    · exact h.bg e
    · exact h.n.s.m.ne h.bb e
theorem Slw.bsl {w wx : World} {g B : Nat} {L : List Blk} {l : Lk} {p bp n : Nat} (h : Slw w wx g B L l p bp n) (hn : n ≤ 100000000) : ∀ wy, Kp (fun q => q = g) wx wy → BSl wy (.slice (some ⟨bp, 0, none⟩) n n) (List.replicate n 0) := bsl_row h.bb h.bg (fun x hx => by rw [(List.mem_replicate.1 hx).2]; decide) (by simp; omega) (by simp)
set_option maxRecDepth 1000000 in
set_option maxHeartbeats 2000000 in
theorem slong_any (w : World) (hcb : Cb w) (m : Int) : Calls Tryd.prog 3 #[.int .i64 m] w fun e w' => e = .returned (.bool true) ∧ Below w.heap.size w w' := by
  have HCB := hide hcb
  have HNM : Hid (∀ (w : World) (n : Int), Calls Tryd.prog 7 #[.int .i64 n] w fun e w' => e = .returned (.int .i64 n) ∧ w' = w) := num13_any
  have hnot : ∀ (x : Bool) (w : World), (Op.unary .not (.bool x)).run Tryd.prog w = .ok (.bool (!x)) w := fun _ _ => rfl
  obtain ⟨l, hlx, hlo, hfo, hbig⟩ := long_facts
  have HLX := hide hlx
  have HFO := hide hfo
  have HBG := hide hbig
  have HNW := hide (new13_any w 1 ⟨Nat.le_refl _, by decide⟩)
  clear hcb hlx hfo hbig
  go_enter Tryd.func3, Tryd.ntmps3
  go_upto_region 3 with (first
    | (go_at_call 4; refine (within13_any m _).mono ?_; rintro e wq ⟨n, hn, rfl, hwq⟩; have hwq := hwq.symm; subst hwq)
    | (go_at_call 5; refine HNW.out.mono ?_; rintro e w1 ⟨rfl, hp1⟩))
  have HN1 : Hid (Nst w w1 (w.heap.size + 1) w.heap.size 1 []) := ⟨hp1.out.1, hp1.out.2, by omega, Nat.le_refl _⟩
  generalize hgg : w.heap.size + 1 = g at *
  obtain ⟨B, hB⟩ : ∃ B, w.heap.size = B := ⟨_, rfl⟩
  rw [hB] at HN1
  have HOF : Hid (Calls Tryd.prog 6 #[.int .u64 85, .slice none 0 0] w1 fun e w' => e = .returned (.tuple #[.agg #[.int .i64 l.v, .int .u64 (l.c : Nat), .int .u64 (l.h : Nat), .string (nstr l.d)], .int .i64 0]) ∧ Hid (Nst w w' g B 1 [])) := by
    have h := of_any w1 85 (.slice none 0 0) [] (HCB.out.below HN1.out.b) ⟨⟨none, 0, rfl, ⟨Nat.le_refl _, fun _ => rfl⟩, .inl rfl⟩, by simp, by simp⟩ (by simp)
    rw [hlo] at h
    refine h.mono ?_
    rintro e w' ⟨he, hb⟩
    exact ⟨he, HN1.out.next hb⟩
  clear hp1 hgg hB hlo HNW
  go_upto_region 4 with (go_at_call 6; refine HOF.out.mono ?_; rintro e w2 ⟨rfl, hN2⟩)
  have HN3 : Hid (Nst w (w2.alloc (.cells #[.int .i64 l.v, .int .u64 (l.c : Nat), .int .u64 (l.h : Nat), .string (nstr l.d)] 29)) g B 1 []) := hN2.out.next (below_alloc4 w2 _)
  have HT3 : Hid ((w2.alloc (.cells #[.int .i64 l.v, .int .u64 (l.c : Nat), .int .u64 (l.h : Nat), .string (nstr l.d)] 29)).heap[w2.heap.size]? = some (.cells (lcs l) 29 (0, 0))) := heap_alloc_new w2 _
  clear HOF HN1 hN2
  generalize w2.alloc (.cells #[.int .i64 l.v, .int .u64 (l.c : Nat), .int .u64 (l.h : Nat), .string (nstr l.d)] 29) = w3 at *
  generalize w2.heap.size = p at *
  have HWK := hide (works13_any w3 (HCB.out.below HN3.out.b))
  go_upto_region 6 with (first
    | (go_at_call 7; refine (HNM.out _ _).mono ?_; rintro e wq ⟨rfl, rfl⟩)
    | (go_at_call 8; refine HWK.out.mono ?_; rintro e w4 ⟨rfl, hb4⟩))
  have hn8 : n ≤ 100000000 := by omega
  have hmk := mk13 w4 n hn8
  have HW5 : Hid (Slw w (w4.alloc (.cells (bv (List.replicate n 0)).toArray 5)) g B [] l p w4.heap.size n) := ⟨(HN3.out.next hb4).next (below_alloc4 w4 _), blk_alloc _ ((hb4.block _ (blk_lt HT3.out)).trans HT3.out), heap_alloc_new w4 _⟩
  clear HN3 HT3 HWK hb4
  go_upto_region 7 with fail
  clear hmk
  generalize w4.alloc (.cells (bv (List.replicate n 0)).toArray 5) = w5 at *
  generalize w4.heap.size = bp at *
  have d0 : w5.cell? ⟨p, 0, none⟩ = some (.int .i64 l.v) := blk_cell (j := 0) HW5.out.lb rfl
  have d1 : w5.cell? ⟨p, 1, none⟩ = some (.int .u64 (l.c : Nat)) := blk_cell (j := 1) HW5.out.lb rfl
  have d2 : w5.cell? ⟨p, 2, none⟩ = some (.int .u64 (l.h : Nat)) := blk_cell (j := 2) HW5.out.lb rfl
  have d3 : w5.cell? ⟨p, 3, none⟩ = some (.string (nstr l.d)) := blk_cell (j := 3) HW5.out.lb rfl
  by_cases hle : n ≤ 67108864
  · have g1 : (n : Int) ≤ 67108864 := by omega
    have HF := HFO.out n hle
    have HFC : Hid (Calls Tryd.prog 9 #[.pointer (some ⟨g, 0, none⟩), .agg #[.int .i64 l.v, .int .u64 (l.c : Nat), .int .u64 (l.h : Nat), .string (nstr l.d)], .slice (some ⟨bp, 0, none⟩) n n] w5 fun e w' => e = .returned (.int .i64 0) ∧ Hid (Slw w w' g B [(l, List.replicate n 0)] l p bp n)) := by
      have h := force13_any w5 g B 1 [] HW5.out.n.s l HLX.out (.slice (some ⟨bp, 0, none⟩) n n) (List.replicate n 0) (HW5.out.bsl hn8)
      rw [HF] at h
      refine h.mono ?_
      rintro e w' ⟨he, hs, hk⟩
      exact ⟨he, HW5.out.of hs hk⟩
    have HHC : Hid (∀ wx, Slw w wx g B [(l, List.replicate n 0)] l p bp n → Calls Tryd.prog 10 #[.pointer (some ⟨g, 0, none⟩), .agg #[.int .i64 l.v, .int .u64 (l.c : Nat), .int .u64 (l.h : Nat), .string (nstr l.d)]] wx fun e w' => e = .returned (.bool true) ∧ Hid (Slw w w' g B [(l, List.replicate n 0)] l p bp n)) := fun wx hx => by
      have h := has13_any wx g B 1 _ hx.n.s l HLX.out
      rw [show atB [(l, List.replicate n 0)] l = some (List.replicate n 0) by rw [atB_cons, if_pos rfl]] at h
      refine h.mono ?_
      rintro e w' ⟨he, hs, hk⟩
      exact ⟨he, hx.of hs (hk.mono (fun _ _ e => .inl e))⟩
    have HLC : Hid (∀ wx, Slw w wx g B [(l, List.replicate n 0)] l p bp n → Calls Tryd.prog 11 #[.pointer (some ⟨g, 0, none⟩)] wx fun e w' => e = .returned (.int .i64 1) ∧ Hid (Slw w w' g B [(l, List.replicate n 0)] l p bp n)) := fun wx hx => by
      refine (len13_any wx g B 1 _ hx.n.s).mono ?_
      rintro e w' ⟨he, hs, hk⟩
      exact ⟨he, hx.of hs (hk.mono (fun _ _ e => .inl e))⟩
    have HSC : Hid (∀ wx, Slw w wx g B [(l, List.replicate n 0)] l p bp n → Calls Tryd.prog 12 #[.pointer (some ⟨g, 0, none⟩)] wx fun e w' => e = .returned (.int .i64 (n : Nat)) ∧ w' = wx) := fun wx hx => by
      have h := size13_any wx g B 1 _ hx.n.s
      rw [show szB [(l, List.replicate n 0)] = n by simp [szB]] at h
      exact h
    clear hle HF hn hn8
    go_wp2_with (first
      | (go_at_call 9; refine HFC.out.mono ?_; rintro e w6 ⟨rfl, HW6⟩; have q0 : w6.cell? ⟨p, 0, none⟩ = some (.int .i64 l.v) := blk_cell (j := 0) HW6.out.lb rfl; have q1 : w6.cell? ⟨p, 1, none⟩ = some (.int .u64 (l.c : Nat)) := blk_cell (j := 1) HW6.out.lb rfl; have q2 : w6.cell? ⟨p, 2, none⟩ = some (.int .u64 (l.h : Nat)) := blk_cell (j := 2) HW6.out.lb rfl; have q3 : w6.cell? ⟨p, 3, none⟩ = some (.string (nstr l.d)) := blk_cell (j := 3) HW6.out.lb rfl)
      | (go_at_call 7; refine (num13_any _ _).mono ?_; rintro e wq ⟨rfl, hwq⟩; have hwq := hwq.symm; subst hwq)
      | (go_at_call 10; refine (HHC.out _ HW6.out).mono ?_; rintro e w7 ⟨rfl, HW7⟩)
      | (go_at_call 11; refine (HLC.out _ HW7.out).mono ?_; rintro e w8 ⟨rfl, HW8⟩)
      | (go_at_call 12; refine (HSC.out _ HW8.out).mono ?_; rintro e w9 ⟨rfl, hw9⟩; have hw9 := hw9.symm; subst hw9))
    go_ret
    exact ⟨rfl, HW8.out.n.b⟩
  · have g1 : ¬ (n : Int) ≤ 67108864 := by omega
    obtain ⟨hb1, hb2, hb3, hb4⟩ := HBG.out n (by omega)
    have HB1 := hide hb1
    have HB2 := hide hb2
    have HB3 := hide hb3
    have HB4 := hide hb4
    have HN8 := hide hn8
    have hrl : (List.replicate n 0).length ≤ 140737488351232 := by simp; omega
    have HRL := hide hrl
    have HP6 : Hid (Calls Tryd.prog 13 #[.pointer (some ⟨g, 0, none⟩), .int .u64 85, .slice (some ⟨bp, 0, none⟩) n n] w5 fun e w' => e = .returned (.tuple #[.agg #[.int .i64 0, .int .u64 0, .int .u64 0, .string ⟨#[]⟩], .int .i64 133]) ∧ Hid (Slw w w' g B [] l p bp n)) := by
      have h := put13_any w5 g B 1 [] HW5.out.n.s 85 (by decide) (.slice (some ⟨bp, 0, none⟩) n n) (List.replicate n 0) (HW5.out.bsl HN8.out) HRL.out (HW5.out.n.cb HCB.out)
      rw [HB1.out] at h
      refine h.mono ?_
      rintro e w' ⟨he, hs, hk⟩
      exact ⟨he, HW5.out.of hs hk⟩
    have HAA : Hid (∀ wx, Slw w wx g B [] l p bp n → Calls Tryd.prog 14 #[.pointer (some ⟨g, 0, none⟩), .slice (some ⟨wx.heap.size, 0, none⟩) 1 1] (wx.alloc (.cells #[.int .i64 l.v, .int .u64 (l.c : Nat), .int .u64 (l.h : Nat), .string (nstr l.d), .slice (some ⟨bp, 0, none⟩) n n] 41)) fun e w' => e = .returned (.tuple #[.int .i64 0, .int .i64 133]) ∧ Hid (Slw w w' g B [] l p bp n)) := fun wx hx => by
      have hx2 := hx.next (below_alloc4 wx (.cells #[.int .i64 l.v, .int .u64 (l.c : Nat), .int .u64 (l.h : Nat), .string (nstr l.d), .slice (some ⟨bp, 0, none⟩) n n] 41))
      have hgl := blk_lt hx.n.s.c
      have h := Adds13_any (wx.alloc (.cells #[.int .i64 l.v, .int .u64 (l.c : Nat), .int .u64 (l.h : Nat), .string (nstr l.d), .slice (some ⟨bp, 0, none⟩) n n] 41)) g B 1 [] hx2.n.s (.slice (some ⟨wx.heap.size, 0, none⟩) 1 1) [(l, List.replicate n 0)] (KSl.one (l := l) (b := List.replicate n 0) (vb := .slice (some ⟨bp, 0, none⟩) n n) (heap_alloc_new wx _) (by omega) (hx2.bsl HN8.out) HLX.out HRL.out) (by simp) (hx2.n.cb HCB.out)
      rw [HB2.out] at h
      refine h.mono ?_
      rintro e w' ⟨he, hs, hk⟩
      exact ⟨he, hx2.of hs hk⟩
    have HZX : Hid (Lkx Lk.none) := ⟨⟨by decide, by decide, by simp [Lk.none], by decide⟩, by decide⟩
    have HAZ : Hid (∀ wx, Slw w wx g B [] l p bp n → Calls Tryd.prog 14 #[.pointer (some ⟨g, 0, none⟩), .slice (some ⟨wx.heap.size, 0, none⟩) 1 1] (wx.alloc (.cells #[.int .i64 0, .int .u64 0, .int .u64 0, .string ⟨#[]⟩, .slice (some ⟨bp, 0, none⟩) n n] 41)) fun e w' => e = .returned (.tuple #[.int .i64 0, .int .i64 132]) ∧ Hid (Slw w w' g B [] l p bp n)) := fun wx hx => by
      have hx2 := hx.next (below_alloc4 wx (.cells #[.int .i64 0, .int .u64 0, .int .u64 0, .string ⟨#[]⟩, .slice (some ⟨bp, 0, none⟩) n n] 41))
      have hgl := blk_lt hx.n.s.c
      have h := Adds13_any (wx.alloc (.cells #[.int .i64 0, .int .u64 0, .int .u64 0, .string ⟨#[]⟩, .slice (some ⟨bp, 0, none⟩) n n] 41)) g B 1 [] hx2.n.s (.slice (some ⟨wx.heap.size, 0, none⟩) 1 1) [(Lk.none, List.replicate n 0)] (KSl.one (l := Lk.none) (b := List.replicate n 0) (vb := .slice (some ⟨bp, 0, none⟩) n n) (heap_alloc_new wx _) (by omega) (hx2.bsl HN8.out) HZX.out HRL.out) (by simp) (hx2.n.cb HCB.out)
      rw [HB3.out] at h
      refine h.mono ?_
      rintro e w' ⟨he, hs, hk⟩
      exact ⟨he, hx2.of hs hk⟩
    have HFC : Hid (∀ wx, Slw w wx g B [] l p bp n → Calls Tryd.prog 9 #[.pointer (some ⟨g, 0, none⟩), .agg #[.int .i64 l.v, .int .u64 (l.c : Nat), .int .u64 (l.h : Nat), .string (nstr l.d)], .slice (some ⟨bp, 0, none⟩) n n] wx fun e w' => e = .returned (.int .i64 133) ∧ Hid (Slw w w' g B [] l p bp n)) := fun wx hx => by
      have h := force13_any wx g B 1 [] hx.n.s l HLX.out (.slice (some ⟨bp, 0, none⟩) n n) (List.replicate n 0) (hx.bsl HN8.out)
      rw [HB4.out] at h
      refine h.mono ?_
      rintro e w' ⟨he, hs, hk⟩
      exact ⟨he, hx.of hs hk⟩
    have HLC : Hid (∀ wx, Slw w wx g B [] l p bp n → Calls Tryd.prog 11 #[.pointer (some ⟨g, 0, none⟩)] wx fun e w' => e = .returned (.int .i64 0) ∧ Hid (Slw w w' g B [] l p bp n)) := fun wx hx => by
      refine (len13_any wx g B 1 _ hx.n.s).mono ?_
      rintro e w' ⟨he, hs, hk⟩
      exact ⟨he, hx.of hs (hk.mono (fun _ _ e => .inl e))⟩
    have HSC : Hid (∀ wx, Slw w wx g B [] l p bp n → Calls Tryd.prog 12 #[.pointer (some ⟨g, 0, none⟩)] wx fun e w' => e = .returned (.int .i64 0) ∧ w' = wx) := fun wx hx => size13_any wx g B 1 _ hx.n.s
    clear hn hn8 hb1 hb2 hb3 hb4 hrl
    go_upto_region 10 with (go_at_call 13; refine HP6.out.mono ?_; rintro e w6 ⟨rfl, HW6⟩)
    have HW7 := hide (HW6.out.next (below_alloc4 w6 (.cells #[.int .i64 0, .int .u64 0, .int .u64 0, .string ⟨#[]⟩] 29)))
    clear d0 d1 d2 d3 HP6 HW5 HW6
    generalize w6.alloc (.cells #[.int .i64 0, .int .u64 0, .int .u64 0, .string ⟨#[]⟩] 29) = w7 at *
    have d0 : w7.cell? ⟨p, 0, none⟩ = some (.int .i64 l.v) := blk_cell (j := 0) HW7.out.lb rfl
    have d1 : w7.cell? ⟨p, 1, none⟩ = some (.int .u64 (l.c : Nat)) := blk_cell (j := 1) HW7.out.lb rfl
    have d2 : w7.cell? ⟨p, 2, none⟩ = some (.int .u64 (l.h : Nat)) := blk_cell (j := 2) HW7.out.lb rfl
    have d3 : w7.cell? ⟨p, 3, none⟩ = some (.string (nstr l.d)) := blk_cell (j := 3) HW7.out.lb rfl
    go_upto_region 11 with (go_at_call 14; refine (HAA.out _ HW7.out).mono ?_; rintro e w8 ⟨rfl, HW8⟩)
    clear d0 d1 d2 d3 HAA HW7
    go_upto_region 12 with (go_at_call 14; refine (HAZ.out _ HW8.out).mono ?_; rintro e w9 ⟨rfl, HW9⟩)
    clear HAZ HW8
    have d0 : w9.cell? ⟨p, 0, none⟩ = some (.int .i64 l.v) := blk_cell (j := 0) HW9.out.lb rfl
    have d1 : w9.cell? ⟨p, 1, none⟩ = some (.int .u64 (l.c : Nat)) := blk_cell (j := 1) HW9.out.lb rfl
    have d2 : w9.cell? ⟨p, 2, none⟩ = some (.int .u64 (l.h : Nat)) := blk_cell (j := 2) HW9.out.lb rfl
    have d3 : w9.cell? ⟨p, 3, none⟩ = some (.string (nstr l.d)) := blk_cell (j := 3) HW9.out.lb rfl
    go_upto_region 14 with (go_at_call 9; refine (HFC.out _ HW9.out).mono ?_; rintro e wa ⟨rfl, HWa⟩)
    clear d0 d1 d2 d3 HFC HW9
    go_wp2_with (first
      | (go_at_call 7; refine (num13_any _ _).mono ?_; rintro e wq ⟨rfl, hwq⟩; have hwq := hwq.symm; subst hwq)
      | (go_at_call 11; refine (HLC.out _ HWa.out).mono ?_; rintro e wb ⟨rfl, HWb⟩)
      | (go_at_call 12; refine (HSC.out _ HWb.out).mono ?_; rintro e wc ⟨rfl, hwc⟩; have hwc := hwc.symm; subst hwc))
    go_ret
    exact ⟨rfl, HWb.out.n.b⟩
end
section
open Go.ChangeShapes Go.WideShapes Go.ChangeAt Go.RowKit Go.Deep
theorem Tryd.own : ownKnob Tryd.prog.godebug = none := by kernel_rfl

theorem Tryd.laidOut : laidOutB Tryd.prog = true := by kernel_rfl
end
section
open Go.ChangeShapes Go.WideShapes Go.ChangeAt Go.RowKit Go
/-- What the rows lay. -/
def kki : List Int := kk.map fun n => ((n : Nat) : Int)
theorem cbN : Tryd.prog.globalNamed "trellis/digest.cubes" = some 0 := by kernel_rfl
theorem cbT : (Tryd.prog.globals[0]?).map (·.type) = some 108 := by kernel_rfl
theorem cellsU32 : Tryd.prog.cellsOf 46 = 1 := by kernel_rfl
theorem cells64 : Tryd.prog.cellsOf 108 = 64 := by kernel_rfl
theorem cb_of_laid {W : World} (h : laidMet Tryd.prog [("trellis/digest.cubes", Rows.laid_trellis_digest_cubes)] W) : Cb W := by
  have h' : laidMet Tryd.prog (("trellis/digest.cubes", Lib.tabData .u32 kki) :: []) W := h
  have t := Lib.tabIs_of_head cbN cbT Tryd.underlying108 Tryd.underlying46 cellsU32 cells64 h'
  refine ⟨fun i hi => ?_⟩
  have hc := t.cell cbN i (by rw [kki, List.length_map]; exact hi)
  rw [hc]
  congr 2
  simp only [kki, List.getD_eq_getElem?_getD, List.getElem?_map]
  have hl : i < kk.length := hi
  rw [List.getElem?_eq_getElem hl]
  rfl
/-- The settled world, the table laid. -/
noncomputable def laidWorld (os : Os) : World :=
  let w0 := World.holding Tryd.prog os ⟨#[], #[], []⟩
  { w0 with heap := w0.heap.modify 0 fun
      | .cells _ t frozen => .cells (wv kk).toArray t frozen
      | o => o }
theorem laid_met (os : Os) (args : Array Value) : laidMet Tryd.prog [("trellis/digest.cubes", Rows.laid_trellis_digest_cubes)] ((laidWorld os).forCall (fun _ _ => 0) ⟨#[], args, []⟩).memory :=
  laidMet_of_run' 8 (by kernel_rfl) (by kernel_rfl)
end
end Go.Proofs.YtbogamcoheajmaaDoor
