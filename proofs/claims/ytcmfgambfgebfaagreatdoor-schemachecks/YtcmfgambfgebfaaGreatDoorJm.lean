import Derived.Test.YtcmfgambfgebfaaGreatDoorJl
namespace Go.Proofs.YtcmfgambfgebfaaGreatDoor
section
open Go.RowKit Go
theorem lk1_none {f : Nat → Tp → Nat} : ∀ (r : List Tp) (o : Nat), (∀ j t, r[j]? = some t → f (o + j) t = 0) → lk1 f o r = none
  | [], _, _ => rfl
  | t :: r, o, h => by
    unfold lk1
    rw [if_neg (fun e => e (h 0 t rfl))]
    exact lk1_none r (o + 1) (fun j u hu => by have := h (j + 1) u (by simpa using hu); rw [Nat.add_assoc, Nat.add_comm 1 j]; exact this)
theorem lk1_hit {f : Nat → Tp → Nat} : ∀ (r : List Tp) (o i : Nat) (t : Tp), r[i]? = some t → f (o + i) t ≠ 0 → (∀ j u, j < i → r[j]? = some u → f (o + j) u = 0) → lk1 f o r = some (f (o + i) t, o + i)
  | [], _, _, _, h, _, _ => by cases h
  | u :: r, o, 0, t, h, h0, _ => by
    have e : u = t := by simpa using h
    subst e
    rw [Nat.add_zero] at h0 ⊢
    unfold lk1
    rw [if_pos h0]
  | u :: r, o, i + 1, t, h, h0, hz => by
    unfold lk1
    rw [if_neg (fun e => e (hz 0 u (by omega) rfl))]
    have := lk1_hit r (o + 1) i t (by simpa using h) (by rw [Nat.add_assoc, Nat.add_comm 1 i]; exact h0) (fun j x hj hx => by have := hz (j + 1) x (by omega) (by simpa using hx); rw [Nat.add_assoc, Nat.add_comm 1 j]; exact this)
    rw [Nat.add_assoc, Nat.add_comm 1 i] at this
    exact this
/-- The looks, one behind the other. -/
def lks (l : List Tp) : Nat → Nat → Tp → Nat
  | 0, i, t => aln l i t
  | 1, _, t => rng l t
  | _, _, t => tgt l t
theorem chk_many {l : List Tp} (h : 64 < l.length) : chk11 l = (110, 0) := by
  unfold chk11
  rw [if_pos h]
theorem chk_hit {l : List Tp} (h64 : ¬ 64 < l.length) {k i : Nat} (hk : k ≤ 2) {t : Tp} (ht : l[i]? = some t) (h0 : lks l k i t ≠ 0) (hb : ∀ k' j u, k' < k → l[j]? = some u → lks l k' j u = 0) (hz : ∀ j u, j < i → l[j]? = some u → lks l k j u = 0) : chk11 l = (lks l k i t, i) := by
  unfold chk11
  rw [if_neg h64]
  have e : ∀ f : Nat → Tp → Nat, (∀ j u, l[j]? = some u → f j u = 0) → lk1 f 0 l = none := fun f hf => lk1_none l 0 (fun j u hu => by rw [Nat.zero_add]; exact hf j u hu)
  have g : ∀ f : Nat → Tp → Nat, f i t ≠ 0 → (∀ j u, j < i → l[j]? = some u → f j u = 0) → lk1 f 0 l = some (f i t, i) := fun f hf hn => by
    have := lk1_hit l 0 i t ht (by rw [Nat.zero_add]; exact hf) (fun j u hj hu => by rw [Nat.zero_add]; exact hn j u hj hu)
    rw [Nat.zero_add] at this
    exact this
  rcases (show k = 0 ∨ k = 1 ∨ k = 2 by omega) with rfl | rfl | rfl
  · rw [g (aln l) h0 hz]
    rfl
  · rw [e (aln l) (fun j u hu => hb 0 j u (by omega) hu)]
    simp only
    rw [g (fun _ t => rng l t) h0 hz]
    rfl
  · rw [e (aln l) (fun j u hu => hb 0 j u (by omega) hu)]
    simp only
    rw [e (fun _ t => rng l t) (fun j u hu => hb 1 j u (by omega) hu)]
    simp only
    rw [g (fun _ t => tgt l t) h0 hz]
    rfl
theorem chk_ok {l : List Tp} (h64 : ¬ 64 < l.length) (hb : ∀ k' j u, k' < 3 → l[j]? = some u → lks l k' j u = 0) : chk11 l = (0, 0) := by
  unfold chk11
  rw [if_neg h64]
  have e : ∀ f : Nat → Tp → Nat, (∀ j u, l[j]? = some u → f j u = 0) → lk1 f 0 l = none := fun f hf => lk1_none l 0 (fun j u hu => by rw [Nat.zero_add]; exact hf j u hu)
  rw [e (aln l) (fun j u hu => hb 0 j u (by omega) hu)]
  simp only
  rw [e (fun _ t => rng l t) (fun j u hu => hb 1 j u (by omega) hu)]
  simp only
  rw [e (fun _ t => tgt l t) (fun j u hu => hb 2 j u (by omega) hu)]
theorem tsl_r {w : World} {v : Value} {l : List Tp} (h : TSl w v l) : ∀ t ∈ l, t.r.n.size ≤ 140737488351232 := fun t ht => by
  obtain ⟨i, hi, e⟩ := List.getElem_of_mem ht
  rcases h.form with ⟨_, _, _, _, h | ⟨b, off, _, h⟩⟩
  · rw [h] at ht; cases ht
  · obtain ⟨_, h3, _⟩ := h i t (by rw [List.getElem?_eq_getElem hi, e])
    exact h3.b.r
/-- A list that is short enough to be walked. -/
def Shrt (l : List Tp) : Prop := ∀ t ∈ l, t.fs.length ≤ 1000 ∧ t.cs.length ≤ 1000 ∧ t.ws.length ≤ 1000
/-- What Check has in hand. -/
structure Chw (w : World) (vt : Value) (B : Nat) (l : List Tp) (g : Nat) (wx : World) : Prop where
  r : wx.heap[g]? = some (.cells #[.func (.func 19) #[.agg #[vt, .map (some B)]] #[], .func (.func 20) #[.agg #[vt, .map (some B)]] #[], .func (.func 21) #[.agg #[vt, .map (some B)]] #[]] 54 (0, 0))
  b : Below w.heap.size w wx
  o : Sbok wx vt B l
theorem Chw.next {w wx wy : World} {vt : Value} {B g : Nat} {l : List Tp} (h : Chw w vt B l g wx) (hb : Below wx.heap.size wx wy) : Chw w vt B l g wy := ⟨(hb.block _ (blk_lt h.r)).trans h.r, h.b.trans (hb.mono h.b.size), h.o.next hb⟩
set_option maxRecDepth 1000000 in
set_option maxHeartbeats 1000000 in
theorem check11_any (w : World) (hT : Tabs w) (hO : Otb w) (v : Value) (l : List Tp) (hv : TSl w v l) (hS : Shrt l) : Calls Tryz.prog 7 #[v] w fun e w' => e = .returned (.tuple #[.int .i64 ((chk11 l).1 : Nat), .int .i64 ((chk11 l).2 : Nat)]) ∧ Below w.heap.size w w' := by
  have HT : Hid (∀ wy, Below w.heap.size w wy → Tabs wy) := fun wy hb => hT.next hb
  have HO : Hid (∀ wy, Below w.heap.size w wy → Otb wy) := fun wy hb => hO.next (keep_below hb)
  have HV := hide hv
  have HSH := hide hS
  have hmax := hv.max
  obtain ⟨⟨a, cap, rfl, _, _⟩, _⟩ := hv
  clear hT hO hS
  go_enter Tryz.func7, Tryz.ntmps7
  by_cases h64 : 64 < l.length
  · as_aux_lemma =>
    have g64 : (64 : Int) < (l.length : Int) := by omega
    have HR := hide (chk_many h64)
    clear h64
    go_wp2_with fail
    go_ret2
    exact ⟨by rw [HR.out]; rfl, Below.refl _ _⟩
  have g64 : ¬ (64 : Int) < (l.length : Int) := by omega
  have H64 := hide h64
  clear h64
  go_wp2_with fail
  refine (opened_any w _ l HV.out).mono ?_
  rintro e w1 ⟨B, rfl, hP⟩
  have HM := hide hP.out.2.1
  have HB1 := hide hP.out.2.2
  clear hP
  have HCB : Hid (∀ j u, (#[.slice a l.length cap, .map (some B)] : Array Value)[j]? = some u → (w1.alloc (.cells #[.slice a l.length cap, .map (some B)] 52)).cell? ⟨w1.heap.size, 0 + j, none⟩ = some u) := fun j u hu => by rw [Nat.zero_add]; exact blk_cell (heap_alloc_new w1 _) hu
  have HIB := hide infoBk
  have HAB : Hid (∀ w, (isAgg 52).run Tryz.prog w = .ok true w) := aggBk
  go_upto_region 5 with (first
    | (refine wpList_aggAt rfl rfl HIB.out HAB.out w1.heap.size 0 #[.slice a l.length cap, .map (some B)] rfl rfl HCB.out ?_))
  have hb2 := below_alloc4 w1 (.cells #[.slice a l.length cap, .map (some B)] 52)
  have hb3 := below_alloc4 (w1.alloc (.cells #[.slice a l.length cap, .map (some B)] 52)) (.cells #[.func (.func 19) #[.agg #[.slice a l.length cap, .map (some B)]] #[], .func (.func 20) #[.agg #[.slice a l.length cap, .map (some B)]] #[], .func (.func 21) #[.agg #[.slice a l.length cap, .map (some B)]] #[]] 54)
  have e1 : (w1.alloc (.cells #[.slice a l.length cap, .map (some B)] 52)).heap.size = w1.heap.size + 1 := by simp
  have HX : Hid (Chw w (.slice a l.length cap) B l (w1.heap.size + 1) ((w1.alloc (.cells #[.slice a l.length cap, .map (some B)] 52)).alloc (.cells #[.func (.func 19) #[.agg #[.slice a l.length cap, .map (some B)]] #[], .func (.func 20) #[.agg #[.slice a l.length cap, .map (some B)]] #[], .func (.func 21) #[.agg #[.slice a l.length cap, .map (some B)]] #[]] 54))) := by
    have h := heap_alloc_new (w1.alloc (.cells #[.slice a l.length cap, .map (some B)] 52)) (.cells #[.func (.func 19) #[.agg #[.slice a l.length cap, .map (some B)]] #[], .func (.func 20) #[.agg #[.slice a l.length cap, .map (some B)]] #[], .func (.func 21) #[.agg #[.slice a l.length cap, .map (some B)]] #[]] 54)
    rw [e1] at h
    exact ⟨h, (HB1.out.trans (hb2.mono HB1.out.size)).trans (hb3.mono (Nat.le_trans HB1.out.size hb2.size)), ((Sbok.mk (HV.out.mv (keep_below HB1.out)) HM.out).next hb2).next hb3⟩
  clear hb2 hb3 e1 HCB HM HB1 HV
  generalize (w1.alloc (.cells #[.slice a l.length cap, .map (some B)] 52)).alloc (.cells #[.func (.func 19) #[.agg #[.slice a l.length cap, .map (some B)]] #[], .func (.func 20) #[.agg #[.slice a l.length cap, .map (some B)]] #[], .func (.func 21) #[.agg #[.slice a l.length cap, .map (some B)]] #[]] 54) = w2 at *
  generalize w1.heap.size + 1 = G at *
  go_loopw [22] (fun vk wx => ∃ k : Nat, k ≤ 3 ∧ vk = .int .i64 (k : Nat) ∧ Hid (∀ k' j u, k' < k → l[j]? = some u → lks l k' j u = 0) ∧ Hid (Chw w (.slice a l.length cap) B l G wx)) (fun vk _ => 3 - (intOf vk).toNat)
  case atStart => exact ⟨0, by omega, rfl, fun k' _ _ hk => absurd hk (by omega), HX⟩
  case round =>
    obtain ⟨k, hk, rfl, HP, HX2⟩ := hrel
    clear HX
    by_cases hk3 : k < 3
    · rcases (show k = 0 ∨ k = 1 ∨ k = 2 by omega) with rfl | rfl | rfl
      · as_aux_lemma =>
        have cK : wr.cell? ⟨G, 0, none⟩ = some (.func (.func 19) #[.agg #[.slice a l.length cap, .map (some B)]] #[]) := blk_cell (j := 0) HX2.out.r rfl
        go_wp2_with fail
        clear cK
        go_loopw [28] (fun vj wz => ∃ j : Nat, j ≤ l.length ∧ vj = .int .i64 (j : Nat) ∧ Hid (∀ j' u, j' < j → l[j']? = some u → lks l 0 j' u = 0) ∧ Hid (Chw w (.slice a l.length cap) B l G wz)) (fun vj _ => l.length - (intOf vj).toNat)
        case atStart => exact ⟨0, by omega, rfl, fun j' _ hj => absurd hj (by omega), HX2⟩
        case round =>
          rename World => wz
          obtain ⟨j, hj, rfl, HZ, HX3⟩ := hrel
          clear HX2
          by_cases hjl : j < l.length
          · as_aux_lemma =>
            have g2 : (j : Int) < (l.length : Int) := by omega
            obtain ⟨t, ht⟩ : ∃ t, l[j]? = some t := ⟨l[j], List.getElem?_eq_getElem hjl⟩
            have HTJ := hide ht
            have HS := hide (HSH.out t (List.mem_of_getElem? ht))
            have HCA := hide (alone_any wz (HT.out wz HX3.out.b) (HO.out wz HX3.out.b) _ B l HX3.out.o j t ht HS.out.1 HS.out.2.1 HS.out.2.2)
            clear ht
            go_wp2_with fail
            refine HCA.out.mono ?_
            rintro e w4 ⟨rfl, hb⟩
            have HX4 := hide (HX3.out.next hb)
            clear hb HCA HX3
            by_cases h0 : aln l j t = 0
            · have HZ2 : Hid (∀ j' u, j' < j + 1 → l[j']? = some u → lks l 0 j' u = 0) := fun j' u hj' hu => by
                by_cases e : j' = j
                · subst e
                  rw [HTJ.out] at hu
                  rw [← Option.some.inj hu]
                  exact h0
                · exact HZ.out j' u (by omega) hu
              rw [h0]
              clear h0 HZ
              go_wp2_with fail
              go_roundw
              case rel => exact ⟨_, _, _, _, _, _, _, _, _, _, _, _, _, _, _, ⟨j + 1, by omega, by go_num, HZ2, HX4⟩, rfl⟩
              case measure => simp [intOf]; omega
            · have HR : Hid (chk11 l = (aln l j t, j)) := chk_hit H64.out (k := 0) (by decide) HTJ.out h0 (fun k' j u hk => HP.out k' j u hk) HZ.out
              obtain ⟨E, hE⟩ : ∃ E, E = aln l j t := ⟨_, rfl⟩
              rw [← hE] at h0 HR
              rw [← hE]
              have gE : ((E : Int) != 0) = true := by
                rw [bne_iff_ne]
                omega
              clear h0 hE HZ HTJ HS
              go_wp2_with fail
              go_ret2
              exact ⟨by rw [HR.out]; rfl, HX4.out.b⟩
          · as_aux_lemma =>
            have g2 : ¬ (j : Int) < (l.length : Int) := by omega
            have HP2 : Hid (∀ k' j u, k' < 0 + 1 → l[j]? = some u → lks l k' j u = 0) := fun k' j' u hk hu => by
              by_cases e : k' = 0
              · subst e
                exact HZ.out j' u (by have := (List.getElem?_eq_some_iff.1 hu).1; omega) hu
              · exact HP.out k' j' u (by omega) hu
            go_wp2_with fail
            go_roundw
            case rel => exact ⟨0 + 1, by omega, rfl, HP2, HX3⟩
            case measure => simp [intOf]
      · as_aux_lemma =>
        have cK : wr.cell? ⟨G, 1, none⟩ = some (.func (.func 20) #[.agg #[.slice a l.length cap, .map (some B)]] #[]) := blk_cell (j := 1) HX2.out.r rfl
        go_wp2_with fail
        clear cK
        go_loopw [28] (fun vj wz => ∃ j : Nat, j ≤ l.length ∧ vj = .int .i64 (j : Nat) ∧ Hid (∀ j' u, j' < j → l[j']? = some u → lks l 1 j' u = 0) ∧ Hid (Chw w (.slice a l.length cap) B l G wz)) (fun vj _ => l.length - (intOf vj).toNat)
        case atStart => exact ⟨0, by omega, rfl, fun j' _ hj => absurd hj (by omega), HX2⟩
        case round =>
          rename World => wz
          obtain ⟨j, hj, rfl, HZ, HX3⟩ := hrel
          clear HX2
          by_cases hjl : j < l.length
          · as_aux_lemma =>
            have g2 : (j : Int) < (l.length : Int) := by omega
            obtain ⟨t, ht⟩ : ∃ t, l[j]? = some t := ⟨l[j], List.getElem?_eq_getElem hjl⟩
            have HTJ := hide ht
            have HS := hide (HSH.out t (List.mem_of_getElem? ht))
            have HCA := hide (ring_any wz (HO.out wz HX3.out.b) _ B l HX3.out.o (tsl_r HX3.out.o.t) j t ht)
            clear ht
            go_wp2_with fail
            refine HCA.out.mono ?_
            rintro e w4 ⟨rfl, hb⟩
            have HX4 := hide (HX3.out.next hb)
            clear hb HCA HX3
            by_cases h0 : rng l t = 0
            · have HZ2 : Hid (∀ j' u, j' < j + 1 → l[j']? = some u → lks l 1 j' u = 0) := fun j' u hj' hu => by
                by_cases e : j' = j
                · subst e
                  rw [HTJ.out] at hu
                  rw [← Option.some.inj hu]
                  exact h0
                · exact HZ.out j' u (by omega) hu
              rw [h0]
              clear h0 HZ
              go_wp2_with fail
              go_roundw
              case rel => exact ⟨_, _, _, _, _, _, _, _, _, _, _, _, _, _, _, ⟨j + 1, by omega, by go_num, HZ2, HX4⟩, rfl⟩
              case measure => simp [intOf]; omega
            · have HR : Hid (chk11 l = (rng l t, j)) := chk_hit H64.out (k := 1) (by decide) HTJ.out h0 (fun k' j u hk => HP.out k' j u hk) HZ.out
              obtain ⟨E, hE⟩ : ∃ E, E = rng l t := ⟨_, rfl⟩
              rw [← hE] at h0 HR
              rw [← hE]
              have gE : ((E : Int) != 0) = true := by
                rw [bne_iff_ne]
                omega
              clear h0 hE HZ HTJ HS
              go_wp2_with fail
              go_ret2
              exact ⟨by rw [HR.out]; rfl, HX4.out.b⟩
          · as_aux_lemma =>
            have g2 : ¬ (j : Int) < (l.length : Int) := by omega
            have HP2 : Hid (∀ k' j u, k' < 1 + 1 → l[j]? = some u → lks l k' j u = 0) := fun k' j' u hk hu => by
              by_cases e : k' = 1
              · subst e
                exact HZ.out j' u (by have := (List.getElem?_eq_some_iff.1 hu).1; omega) hu
              · exact HP.out k' j' u (by omega) hu
            go_wp2_with fail
            go_roundw
            case rel => exact ⟨1 + 1, by omega, rfl, HP2, HX3⟩
            case measure => simp [intOf]
      · as_aux_lemma =>
        have cK : wr.cell? ⟨G, 2, none⟩ = some (.func (.func 21) #[.agg #[.slice a l.length cap, .map (some B)]] #[]) := blk_cell (j := 2) HX2.out.r rfl
        go_wp2_with fail
        clear cK
        go_loopw [28] (fun vj wz => ∃ j : Nat, j ≤ l.length ∧ vj = .int .i64 (j : Nat) ∧ Hid (∀ j' u, j' < j → l[j']? = some u → lks l 2 j' u = 0) ∧ Hid (Chw w (.slice a l.length cap) B l G wz)) (fun vj _ => l.length - (intOf vj).toNat)
        case atStart => exact ⟨0, by omega, rfl, fun j' _ hj => absurd hj (by omega), HX2⟩
        case round =>
          rename World => wz
          obtain ⟨j, hj, rfl, HZ, HX3⟩ := hrel
          clear HX2
          by_cases hjl : j < l.length
          · as_aux_lemma =>
            have g2 : (j : Int) < (l.length : Int) := by omega
            obtain ⟨t, ht⟩ : ∃ t, l[j]? = some t := ⟨l[j], List.getElem?_eq_getElem hjl⟩
            have HTJ := hide ht
            have HS := hide (HSH.out t (List.mem_of_getElem? ht))
            have HCA := hide (together_any wz (HO.out wz HX3.out.b) _ B l HX3.out.o (tsl_r HX3.out.o.t) j t ht HS.out.1 HS.out.2.1)
            clear ht
            go_wp2_with fail
            refine HCA.out.mono ?_
            rintro e w4 ⟨rfl, hb⟩
            have HX4 := hide (HX3.out.next hb)
            clear hb HCA HX3
            by_cases h0 : tgt l t = 0
            · have HZ2 : Hid (∀ j' u, j' < j + 1 → l[j']? = some u → lks l 2 j' u = 0) := fun j' u hj' hu => by
                by_cases e : j' = j
                · subst e
                  rw [HTJ.out] at hu
                  rw [← Option.some.inj hu]
                  exact h0
                · exact HZ.out j' u (by omega) hu
              rw [h0]
              clear h0 HZ
              go_wp2_with fail
              go_roundw
              case rel => exact ⟨_, _, _, _, _, _, _, _, _, _, _, _, _, _, _, ⟨j + 1, by omega, by go_num, HZ2, HX4⟩, rfl⟩
              case measure => simp [intOf]; omega
            · have HR : Hid (chk11 l = (tgt l t, j)) := chk_hit H64.out (k := 2) (by decide) HTJ.out h0 (fun k' j u hk => HP.out k' j u hk) HZ.out
              obtain ⟨E, hE⟩ : ∃ E, E = tgt l t := ⟨_, rfl⟩
              rw [← hE] at h0 HR
              rw [← hE]
              have gE : ((E : Int) != 0) = true := by
                rw [bne_iff_ne]
                omega
              clear h0 hE HZ HTJ HS
              go_wp2_with fail
              go_ret2
              exact ⟨by rw [HR.out]; rfl, HX4.out.b⟩
          · as_aux_lemma =>
            have g2 : ¬ (j : Int) < (l.length : Int) := by omega
            have HP2 : Hid (∀ k' j u, k' < 2 + 1 → l[j]? = some u → lks l k' j u = 0) := fun k' j' u hk hu => by
              by_cases e : k' = 2
              · subst e
                exact HZ.out j' u (by have := (List.getElem?_eq_some_iff.1 hu).1; omega) hu
              · exact HP.out k' j' u (by omega) hu
            go_wp2_with fail
            go_roundw
            case rel => exact ⟨2 + 1, by omega, rfl, HP2, HX3⟩
            case measure => simp [intOf]
    · as_aux_lemma =>
      have g2 : ¬ (k : Int) < 3 := by omega
      have HR := hide (chk_ok H64.out (fun k' j u hk => HP.out k' j u (by omega)))
      go_wp2_with fail
      go_ret2
      exact ⟨by rw [HR.out]; rfl, HX2.out.b⟩
end
section
open Go.RowKit Go
/-- Pass one that is not wanted. -/
theorem heldSkip {P : Program} {Q : Exit → Act → World → Prop} {S : World → Prop} {l : List Oper} {fuel : Nat} {listed : Array Bool} {a : Act} {w : World} (i : Nat) {oi : Oper} (hi : l[i]? = some oi) (hs : Region.noSelect l.toArray = true) (hf : Region.free .any l.toArray listed i = true) (hr : (Region.ready .any l.toArray listed).contains i = true)
    (hQ : ∀ c a w, Q (.panic c) (a.put oi.dst undef) w → Q (.panic c) a w) (hw : Region.wanted oi (yielded l.toArray a.tmps) = false) (hS : S w)
    (h : wpAnyH P .any l.toArray Q S fuel (listed.setIfInBounds i true) (a.put oi.dst undef) w) : wpAnyH P .any l.toArray Q S (fuel + 1) listed a w :=
  wpAnyH_take (by simpa using hi) hs hf hr hQ (.inr ⟨hw, rfl⟩) hS h
end
end Go.Proofs.YtcmfgambfgebfaaGreatDoor
