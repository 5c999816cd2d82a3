import Derived.Test.YtbbalhfjgpaabaaGreatDoorJk
import Derived.Test.YtbbalhfjgpaabaaGreatDoorJl
import Derived.Test.YtbbalhfjgpaabaaGreatDoorJg
import Derived.Test.YtbbalhfjgpaabaaGreatDoorJj
import Derived.Test.YtbbalhfjgpaabaaGreatDoorJe
import Derived.Test.YtbbalhfjgpaabaaGreatDoorJa
import Derived.Test.YtbbalhfjgpaabaaGreatDoorSlst
import Derived.Test.YtbbalhfjgpaabaaGreatDoorJb
import Derived.Sort.OwnSorted
import Derived.Test.YtbbalhfjgpaabaaGreatDoorJc
namespace Go.Proofs.YtbbalhfjgpaabaaGreatDoor
section
open Go.RowKit Go
abbrev Wsl (W w : World) (v : Value) (l : List Tp) : Prop := GSl 9 (fun _ => Tpi W) w v l
theorem Wsl.tsl {W w : World} {v : Value} {l : List Tp} (h : Wsl W w v l) (hb : Below W.heap.size W w) : TSl w v l := by
  obtain ⟨⟨a, cap, hv, hn, hc⟩, h1⟩ := h
  refine ⟨⟨a, cap, hv, hn, ?_⟩, h1⟩
  rcases hc with hc | ⟨b, off, ha, hc⟩
  · exact .inl hc
  · exact .inr ⟨b, off, ha, fun i x hi => by
      obtain ⟨c, h2, h3⟩ := hc i x hi
      exact ⟨c, h2.move (keep_below hb), h3⟩⟩
theorem Wsl.next {W w w' : World} {v : Value} {l : List Tp} (h : Wsl W w v l) (hb : Below w.heap.size w w') : Wsl W w' v l := GSl.move h (fun _ _ h => h) (keep_below hb)
theorem Wsl.kps {W w w' : World} {v : Value} {l : List Tp} {S : Nat → Prop} (h : Wsl W w v l) (hk : Kp S w w') (hq : ∀ q, v.ownBlock = some q → ¬ S q) : Wsl W w' v l := GSl.kps h (fun _ _ h => h) hk hq
theorem Cuw.wsl {W w wx : World} {v : Value} {L : List (Array Value)} {ts : List Tp} (h : Cuw W w v L ts wx) (hm : ts.length ≤ 140737488351232) : Wsl W wx v ts := own_gsl h.o h.z h.n hm (fun i t c h1 h2 => h.k i t c h1 h2)
theorem wsl_at {W w : World} {a : Option Addr} {k : Nat} {l : List Tp} (h : Wsl W w (.slice a l.length k) l) {i : Nat} {t : Tp} (ht : l[i]? = some t) : ∃ b off c, a = some ⟨b, off, none⟩ ∧ Tpi W t c ∧ (∀ j u, c[j]? = some u → w.cell? ⟨b, off + i * 9 + j, none⟩ = some u) := by
  obtain ⟨a', k', e, _, hc⟩ := h.form
  injection e with e1 _ _
  subst e1
  rcases hc with hc | ⟨b, off, ha, hc⟩
  · rw [hc] at ht
    cases ht
  · obtain ⟨c, h1, h2⟩ := hc i t ht
    exact ⟨b, off, c, ha, h1, h2⟩
set_option maxRecDepth 1000000 in
set_option maxHeartbeats 1000000 in
theorem rfindo_any (W w : World) (h0 : Below W.heap.size W w) (v : Value) (l : List Tp) (hv0 : Wsl W w v l) (s : ByteArray) (hs : s.size ≤ 140737488351232) : Calls Tryz.prog 30 #[v, .string s] w fun e w' => ∃ c, e = .returned (.tuple #[.agg c, .bool (fnd l s).2]) ∧ Hid (Tpi W (fnd l s).1 c ∧ Below w.heap.size w w') := by
  have hv : TSl w v l := Wsl.tsl hv0 h0
  have HV0 := hide hv0
  have HV := hide hv
  have HS := hide hs
  have hmax := hv.max
  obtain ⟨⟨av, cv, rfl, _, _⟩, _⟩ := hv
  clear hv0 h0
  have hb0 := below_alloc4 w (.cells #[.string ⟨#[]⟩, .int .i64 0, .int .i64 0, .int .i64 0, .string ⟨#[]⟩, .bool false, .slice none 0 0, .slice none 0 0, .slice none 0 0] 69)
  have HB0 := hide hb0
  have HR0 := hide (heap_alloc_new w (.cells #[.string ⟨#[]⟩, .int .i64 0, .int .i64 0, .int .i64 0, .string ⟨#[]⟩, .bool false, .slice none 0 0, .slice none 0 0, .slice none 0 0] 69))
  have HI := hide infoTp
  have HAG : Hid (∀ w, (isAgg 69).run Tryz.prog w = .ok true w) := aggTp
  clear hs hb0
  go_enter Tryz.func30, Tryz.ntmps30
  go_wp2_with fail
  generalize w.alloc (.cells #[.string ⟨#[]⟩, .int .i64 0, .int .i64 0, .int .i64 0, .string ⟨#[]⟩, .bool false, .slice none 0 0, .slice none 0 0, .slice none 0 0] 69) = w1 at *
  refine (place11_any w1 _ l (HV.out.mv (keep_below HB0.out)) s).mono ?_
  rintro e wq ⟨rfl, hwq⟩
  have hwq := hwq.symm
  subst hwq
  cases hp : plc l s with
  | some i =>
    obtain ⟨t, ht, hn⟩ := plc_lt hp
    have hil := (List.getElem?_eq_some_iff.1 ht).1
    have e1 : pli l s = (i : Nat) := by unfold pli; rw [hp]
    rw [e1]
    have HF := hide (fnd_some hp ht)
    obtain ⟨b, off, c, e2, h1, h2⟩ := wsl_at HV0.out ht
    subst e2
    have g1 : (0 : Int) ≤ (i : Int) := by omega
    have g2 : (i : Int) < (l.length : Int) := by omega
    have HZ9 := hide h1.size9
    have HA1 := hide h1.all1
    have HT1 := hide h1
    have HC1 : Hid (∀ j u, c[j]? = some u → w1.cell? ⟨b, off + i * 9 + j, none⟩ = some u) := fun j u hj => keep_below HB0.out _ _ (h2 j u hj)
    have HI2 : Hid ((Tryz.prog.info? 69).map (·.size) = some c.size) := by show _ = _; rw [HZ9.out]; exact infoTp
    have HZ2 : Hid ((#[.string ⟨#[]⟩, .int .i64 0, .int .i64 0, .int .i64 0, .string ⟨#[]⟩, .bool false, .slice none 0 0, .slice none 0 0, .slice none 0 0] : Array Value).size = c.size) := by show _ = _; rw [HZ9.out]; rfl
    clear hp ht hn hil e1 h1 h2
    go_wp2_with (first
      | (refine wpList_aggAt rfl rfl HI.out HAG.out b (off + i * 9) c rfl HZ9.out HC1.out ?_)
      | (refine wpList_storeRow rfl rfl w.heap.size #[.string ⟨#[]⟩, .int .i64 0, .int .i64 0, .int .i64 0, .string ⟨#[]⟩, .bool false, .slice none 0 0, .slice none 0 0, .slice none 0 0] c 69 rfl rfl HR0.out HI2.out HZ2.out HA1.out ?_))
    have hkr := row_kp w1 w.heap.size c
    have hbw : Below w.heap.size w (w1.setRow w.heap.size c) := HB0.out.trans (hkr.below HB0.out.size (fun q e => by omega))
    exact bodyPost_ret (end_ct rfl (row_same HR0.out) rfl rfl Tryz.underlying69 HI2.out) rfl ⟨c, by rw [HF.out]; rfl, by rw [HF.out]; exact ⟨HT1.out, hbw⟩⟩
  | none =>
    have e1 : pli l s = -1 := by unfold pli; rw [hp]
    rw [e1]
    have HP := hide hp
    clear hp e1
    go_wp2_with fail
    refine (builtIn11_any w1).mono ?_
    rintro e w2 ⟨v2, rfl, hs2, hb2⟩
    have HB2 : Hid (Below w.heap.size w w2) := HB0.out.trans (hb2.mono HB0.out.size)
    have HR2 := hide ((hb2.block _ (blk_lt HR0.out)).trans HR0.out)
    have HS2 := hide hs2
    obtain ⟨⟨a2, k2, rfl, _, _⟩, _, _⟩ := hs2
    clear hb2
    go_wp2_with fail
    refine (is11_any w2 _ bltn HS2.out s).mono ?_
    rintro e wq ⟨rfl, hwq⟩
    have hwq := hwq.symm
    subst hwq
    rw [memb_bltn]
    cases ho : (ownK s).isSome with
    | true =>
      have HF1 := hide (fnd_none_1 HP.out ho)
      have HF2 : Hid ((fnd l s).2 = true) := by show _ = _; rw [fnd_none_2 HP.out, ho]
      have HI2 : Hid ((Tryz.prog.info? 69).map (·.size) = some (#[.string s, .int .i64 0, .int .i64 0, .int .i64 0, .string ⟨#[]⟩, .bool false, .slice none 0 0, .slice none 0 0, .slice none 0 0] : Array Value).size) := infoTp
      have HA1 : Hid ((#[.string s, .int .i64 0, .int .i64 0, .int .i64 0, .string ⟨#[]⟩, .bool false, .slice none 0 0, .slice none 0 0, .slice none 0 0] : Array Value).all (·.oneCell') = true) := by show _ = _; simp [Value.oneCell']
      clear ho
      go_wp2_with (refine wpList_storeRow rfl rfl w.heap.size #[.string ⟨#[]⟩, .int .i64 0, .int .i64 0, .int .i64 0, .string ⟨#[]⟩, .bool false, .slice none 0 0, .slice none 0 0, .slice none 0 0] #[.string s, .int .i64 0, .int .i64 0, .int .i64 0, .string ⟨#[]⟩, .bool false, .slice none 0 0, .slice none 0 0, .slice none 0 0] 69 rfl rfl HR2.out HI2.out rfl HA1.out ?_)
      have hkr := row_kp w2 w.heap.size #[.string s, .int .i64 0, .int .i64 0, .int .i64 0, .string ⟨#[]⟩, .bool false, .slice none 0 0, .slice none 0 0, .slice none 0 0]
      exact bodyPost_ret (end_ct rfl (row_same HR2.out) rfl rfl Tryz.underlying69 HI2.out) rfl ⟨_, by rw [HF2.out]; rfl, by rw [HF1.out]; exact otp_tpi _ s HS.out, HB2.out.trans (hkr.below HB2.out.size (fun q e => by omega))⟩
    | false =>
      have HF1 : Hid ((fnd l s).1 = ztp) := by show _ = _; unfold fnd; rw [HP.out]; simp only; rw [ho]; rfl
      have HF2 : Hid ((fnd l s).2 = false) := by show _ = _; rw [fnd_none_2 HP.out, ho]
      have HI2 : Hid ((Tryz.prog.info? 69).map (·.size) = some (#[.string ⟨#[]⟩, .int .i64 0, .int .i64 0, .int .i64 0, .string ⟨#[]⟩, .bool false, .slice none 0 0, .slice none 0 0, .slice none 0 0] : Array Value).size) := infoTp
      have HA1 : Hid ((#[.string ⟨#[]⟩, .int .i64 0, .int .i64 0, .int .i64 0, .string ⟨#[]⟩, .bool false, .slice none 0 0, .slice none 0 0, .slice none 0 0] : Array Value).all (·.oneCell') = true) := by show _ = _; simp [Value.oneCell']
      clear ho
      go_wp2_with (refine wpList_storeRow rfl rfl w.heap.size #[.string ⟨#[]⟩, .int .i64 0, .int .i64 0, .int .i64 0, .string ⟨#[]⟩, .bool false, .slice none 0 0, .slice none 0 0, .slice none 0 0] #[.string ⟨#[]⟩, .int .i64 0, .int .i64 0, .int .i64 0, .string ⟨#[]⟩, .bool false, .slice none 0 0, .slice none 0 0, .slice none 0 0] 69 rfl rfl HR2.out HI2.out rfl HA1.out ?_)
      have hkr := row_kp w2 w.heap.size #[.string ⟨#[]⟩, .int .i64 0, .int .i64 0, .int .i64 0, .string ⟨#[]⟩, .bool false, .slice none 0 0, .slice none 0 0, .slice none 0 0]
      exact bodyPost_ret (end_ct rfl (row_same HR2.out) rfl rfl Tryz.underlying69 HI2.out) rfl ⟨_, by rw [HF2.out]; rfl, by rw [HF1.out]; exact ztp_tpi _, HB2.out.trans (hkr.below HB2.out.size (fun q e => by omega))⟩
set_option maxRecDepth 1000000 in
set_option maxHeartbeats 1000000 in
theorem rbaseo_any (W w : World) (h0 : Below W.heap.size W w) (v : Value) (l : List Tp) (hv0 : Wsl W w v l) (hF : Fst l) (s : ByteArray) (hs : s.size ≤ 140737488351232) : Calls Tryz.prog 32 #[v, .string s] w fun e w' => ∃ c, e = .returned (.tuple #[.agg c, .bool (fnd l (flo l s).1).2]) ∧ Hid (Tpi W (fnd l (flo l s).1).1 c ∧ Below w.heap.size w w') := by
  have hv : TSl w v l := Wsl.tsl hv0 h0
  have HV0 := hide hv0
  have H0 := hide h0
  have HV := hide hv
  have hE : (flo l s).1 = (flr l s).1 := by rw [flo_flr hF]
  have HFZ : Hid ((flr l s).1.size ≤ 140737488351232) := flr_sz (tsl_r hv) _ _ _ hs
  rw [hE]
  have hb0 := below_alloc4 w (.cells #[.string ⟨#[]⟩, .int .i64 0, .int .i64 0, .int .i64 0, .string ⟨#[]⟩, .bool false, .slice none 0 0, .slice none 0 0, .slice none 0 0] 69)
  have HB0 := hide hb0
  have HR0 := hide (heap_alloc_new w (.cells #[.string ⟨#[]⟩, .int .i64 0, .int .i64 0, .int .i64 0, .string ⟨#[]⟩, .bool false, .slice none 0 0, .slice none 0 0, .slice none 0 0] 69))
  obtain ⟨⟨av, cv, rfl, _, _⟩, _⟩ := hv
  clear hs hb0 hE hF hv0 h0
  go_enter Tryz.func32, Tryz.ntmps32
  go_wp2_with fail
  generalize w.alloc (.cells #[.string ⟨#[]⟩, .int .i64 0, .int .i64 0, .int .i64 0, .string ⟨#[]⟩, .bool false, .slice none 0 0, .slice none 0 0, .slice none 0 0] 69) = w1 at *
  refine (follow11_any w1 _ l (HV.out.mv (keep_below HB0.out)) s).mono ?_
  rintro e wq ⟨rfl, hwq⟩
  have hwq := hwq.symm
  subst hwq
  generalize hEZ : flr l s = EZ at *
  obtain ⟨E, Z, Y⟩ := EZ
  have HEZ := hide hEZ
  clear hEZ
  go_wp2_with fail
  refine (rfindo_any W w1 (H0.out.trans (HB0.out.mono H0.out.size)) _ l (Wsl.next HV0.out HB0.out) E HFZ.out).mono ?_
  rintro e w4 ⟨c', rfl, hP⟩
  have hb4 := hP.out.2
  have HR4 := hide ((hb4.block _ (blk_lt HR0.out)).trans HR0.out)
  have HB4 : Hid (Below w.heap.size w w4) := HB0.out.trans (hb4.mono HB0.out.size)
  have HT4 := hide hP.out.1
  have h11 := hP.out.1
  have HZ9 := hide h11.size9
  have HA1 := hide h11.all1
  have HI2 : Hid ((Tryz.prog.info? 69).map (·.size) = some c'.size) := by show _ = _; rw [HZ9.out]; exact infoTp
  have HZ2 : Hid ((#[.string ⟨#[]⟩, .int .i64 0, .int .i64 0, .int .i64 0, .string ⟨#[]⟩, .bool false, .slice none 0 0, .slice none 0 0, .slice none 0 0] : Array Value).size = c'.size) := by show _ = _; rw [HZ9.out]; rfl
  clear hP hb4 h11
  generalize hbb : (fnd l E).2 = bb at *
  have HBB := hide hbb
  clear hbb
  go_wp2_with (refine wpList_storeRow rfl rfl w.heap.size #[.string ⟨#[]⟩, .int .i64 0, .int .i64 0, .int .i64 0, .string ⟨#[]⟩, .bool false, .slice none 0 0, .slice none 0 0, .slice none 0 0] c' 69 rfl rfl HR4.out HI2.out HZ2.out HA1.out ?_)
  have hkr := row_kp w4 w.heap.size c'
  have hE : (flr l s).1 = E := by rw [HEZ.out]
  exact bodyPost_ret (end_ct rfl (row_same HR4.out) rfl rfl Tryz.underlying69 HI2.out) rfl ⟨c', by rw [hE, HBB.out]; rfl, by rw [hE]; exact HT4.out, HB4.out.trans (hkr.below HB4.out.size (fun q e => by omega))⟩
end
section
open Go.RowKit Go
theorem own_blk11 {w : World} {B : Nat} {e : TypeId} {k : Nat} {v : Value} {n : Nat} {xs : List Value} (h : w.ownsRow B e k v n xs) : ∀ q, v.ownBlock = some q → ∃ c T, w.heap[q]? = some (.cells c T (0, 0)) := fun q hq => by
  rcases id h.2 with ⟨rfl, _⟩ | ⟨g, cap, cur, rfl, _, hg, _⟩
  · cases hq
  · obtain rfl := Option.some.inj hq
    exact ⟨cur, e, hg⟩
theorem Bkq.cel {w : World} {base B : Nat} {C : Array Value} {f : Fin 4 → Fs} {t d u : Nat} (h : Bkq w base B C f t d u) : ∀ q, Ft4 B f q → ∃ c T, w.heap[q]? = some (.cells c T (0, 0)) := fun q hq => by
  rcases hq with rfl | ⟨i, e | e | ⟨x, hx, e⟩⟩
  · exact ⟨_, _, h.blk⟩
  · exact own_blk11 (h.k i).c.hb q e
  · exact own_blk11 (h.k i).c.ho q e
  · exact own_blk11 ((h.k i).c.he x hx) q e
theorem Tst.kps {S : Nat → Prop} {w w' : World} {N top g : Nat} {l : List Tp} (h : Tst w N top g l) (hk : Kp S w w') (hS : ∀ q, S q → q < N ∨ top ≤ q) (hc : ∀ q, S q → ∃ c T, w.heap[q]? = some (.cells c T (0, 0))) : Tst w' N top g l := by
  obtain ⟨wt, vt, B, d, m, h1, h2, h3, h4, h5⟩ := h.e
  have hg := h.g
  refine ⟨⟨wt, vt, B, d, m, h1, h2, h3.trans hk (fun q hq e => by rw [h1] at hq; have := hS q e; omega), (hk.block _ (blk_lt h4) (fun e => by have := hS g e; omega)).trans h4, ?_⟩, h.g⟩
  rcases h5 with h5 | ⟨h5, M, n, F, e1, e2, e3⟩
  · exact .inl h5
  · refine .inr ⟨h5, M, n, F, e1, e2, e3.kp hk (fun e => ?_)⟩
    obtain ⟨c, T, hcc⟩ := hc M e
    exact mst_ne e3 hcc rfl
theorem bktexts_any {w : World} {base B : Nat} {C : Array Value} {f : Fin 4 → Fs} {t d u : Nat} (h : Bkq w base B C f t d u) (l : Value) (n : Nat) (xs : List Value) (hl : w.ownsRow base 9 1 l n xs) (hn : n < 68719476736) (hd : ∀ q, l.ownBlock = some q → ¬ Ft4 B f q) (ht : t + 1 < 68719476736) :
    Calls Tryz.prog 33 #[.pointer (some ⟨B, 0, none⟩), l] w fun e w' => e = .returned (.tuple #[]) ∧ Hid (Pt4 w base B f t d (fun q => l.ownBlock = some q) 1 w') := by
  refine (textsM_any h.blk h.n (h.r 0).1 (h.r 0).2.1 h.c54 h.c56 (h.k 0) l n xs hl hn (h.hd 0 hd) ht h.hu h.sz).mono ?_
  rintro e w' ⟨rfl, hP⟩
  exact ⟨rfl, h.put 0 hP.out hd ht⟩
structure Tol (wx : World) (lo hi : Nat) (t : Tp) (c : Array Value) : Prop where
  p : ∀ wy, Kp (fun q => ¬ (lo ≤ q ∧ q < hi)) wx wy → Tpi wy t c
  y : Tyo wx lo (fun q => lo ≤ q ∧ q < hi) c
theorem Tol.kp {S : Nat → Prop} {wx wy : World} {lo hi : Nat} {t : Tp} {c : Array Value} (h : Tol wx lo hi t c) (hk : Kp S wx wy) (hs : ∀ q, S q → ¬ (lo ≤ q ∧ q < hi)) : Tol wy lo hi t c :=
  ⟨fun wz hz => h.p wz ((hk.mono (fun _ _ e => hs _ e)).trans hz (fun _ _ e => e)), h.y.kp hk (fun q e s => hs q s e) (fun _ e => ⟨e.1, e⟩)⟩
theorem Tol.next {wx wy : World} {lo hi : Nat} {t : Tp} {c : Array Value} (h : Tol wx lo hi t c) (hb : Below wx.heap.size wx wy) : Tol wy lo hi t c := h.kp (Kp.of_below (S := fun _ => False) hb) (fun _ e => e.elim)
theorem Tol.of {w w' : World} {t : Tp} {c : Array Value} (hK : ∀ (S : Nat → Prop) wy, (∀ q, S q → q < w.heap.size) → Kp S w' wy → Tpi wy t c) (hY : Tyo w' w.heap.size (fun q => w.heap.size ≤ q ∧ q < w'.heap.size) c) : Tol w' w.heap.size w'.heap.size t c :=
  ⟨fun wy hk => hK (fun q => q < w.heap.size) wy (fun _ e => e) (hk.mono (fun _ _ e => by omega)), hY⟩
structure Tw2 (W : World) (b0 : Nat) (v1 v2 : Value) (L1 L2 : List (Array Value)) (ts1 ts2 : List Tp) (A E : Nat → Nat) (wx : World) : Prop where
  o1 : wx.ownsRow b0 69 9 v1 L1.length (gfl L1)
  o2 : wx.ownsRow b0 69 9 v2 L2.length (gfl L2)
  n1 : L1.length = ts1.length
  n2 : L2.length = ts2.length
  z1 : ∀ c ∈ L1, c.size = 9
  z2 : ∀ c ∈ L2, c.size = 9
  ap : ∀ q, v1.ownBlock = some q → v2.ownBlock ≠ some q
  a : ∀ i, i < ts1.length → b0 ≤ A i ∧ A i ≤ E i ∧ E i ≤ wx.heap.size
  d : ∀ i j, i < j → j < ts1.length → E i ≤ A j
  g : ∀ i q, i < ts1.length → (v1.ownBlock = some q ∨ v2.ownBlock = some q) → q < A i ∨ E i ≤ q
  k1 : ∀ (i : Nat) (t : Tp) (c : Array Value), ts1[i]? = some t → L1[i]? = some c → Tol wx (A i) (E i) t c
  k2 : ∀ (i : Nat) (t : Tp) (c : Array Value), ts2[i]? = some t → L2[i]? = some c → Tpi W t c
theorem Tw2.start (W : World) (b0 : Nat) (wx : World) : Tw2 W b0 (.slice none 0 0) (.slice none 0 0) [] [] [] [] (fun _ => 0) (fun _ => 0) wx :=
  ⟨World.ownsRow_nil _ _ _ _, World.ownsRow_nil _ _ _ _, rfl, rfl, fun _ h => (by simp at h), fun _ h => (by simp at h), fun _ h => (by cases h), fun _ h => (by simp at h), fun _ _ _ h => (by simp at h), fun _ _ h => (by simp at h), fun _ _ _ h => (by simp at h), fun _ _ _ h => (by simp at h)⟩
theorem Tw2.kp {S : Nat → Prop} {W wx wy : World} {b0 : Nat} {v1 v2 : Value} {L1 L2 : List (Array Value)} {ts1 ts2 : List Tp} {A E : Nat → Nat} (h : Tw2 W b0 v1 v2 L1 L2 ts1 ts2 A E wx) (hk : Kp S wx wy) (hs : ∀ q, S q → q < b0) : Tw2 W b0 v1 v2 L1 L2 ts1 ts2 A E wy :=
  ⟨hk.owns h.o1 (fun q e s => by have := (h.o1.lt q e).1; have := hs q s; omega), hk.owns h.o2 (fun q e s => by have := (h.o2.lt q e).1; have := hs q s; omega), h.n1, h.n2, h.z1, h.z2, h.ap, fun i hi => ⟨(h.a i hi).1, (h.a i hi).2.1, Nat.le_trans (h.a i hi).2.2 hk.size⟩, h.d, h.g, fun i t c e1 e2 => (h.k1 i t c e1 e2).kp hk (fun q s r => by have := (h.a i (List.getElem?_eq_some_iff.1 e1).1).1; have := hs q s; omega), h.k2⟩
theorem Tw2.next {W wx wy : World} {b0 : Nat} {v1 v2 : Value} {L1 L2 : List (Array Value)} {ts1 ts2 : List Tp} {A E : Nat → Nat} (h : Tw2 W b0 v1 v2 L1 L2 ts1 ts2 A E wx) (hb : Below wx.heap.size wx wy) : Tw2 W b0 v1 v2 L1 L2 ts1 ts2 A E wy := h.kp (Kp.of_below (S := fun _ => False) hb) (fun _ e => e.elim)
theorem two_at {α : Type} {l : List α} {a b x : α} {i : Nat} (h : (l ++ [a, b])[i]? = some x) : (i < l.length ∧ l[i]? = some x) ∨ (i = l.length ∧ x = a) ∨ (i = l.length + 1 ∧ x = b) := by
  by_cases h1 : i < l.length
  · rw [List.getElem?_append_left h1] at h
    exact .inl ⟨h1, h⟩
  · rw [List.getElem?_append_right (by omega)] at h
    obtain ⟨k, hk⟩ : ∃ k, i = l.length + k := ⟨i - l.length, by omega⟩
    subst hk
    rw [Nat.add_sub_cancel_left] at h
    rcases k with _ | _ | k
    · exact .inr (.inl ⟨rfl, by simpa using h.symm⟩)
    · exact .inr (.inr ⟨rfl, by simpa using h.symm⟩)
    · simp at h
theorem two_mem {l : List (Array Value)} {a b x : Array Value} {P : Array Value → Prop} (h0 : ∀ c ∈ l, P c) (ha : P a) (hb : P b) (h : x ∈ l ++ [a, b]) : P x := by
  rcases List.mem_append.1 h with h | h
  · exact h0 x h
  · rcases List.mem_cons.1 h with rfl | h
    · exact ha
    · rw [List.mem_singleton.1 h]; exact hb
theorem two_len {α : Type} {l : List α} {a b : α} : (l ++ [a, b]).length = l.length + 2 := by simp
theorem Tw2.put1 {W wx wy : World} {b0 : Nat} {v1 v2 v' : Value} {L1 L2 : List (Array Value)} {ts1 ts2 : List Tp} {A E : Nat → Nat} {c1 c2 : Array Value} {t1 t2 : Tp} {lo1 hi1 lo2 hi2 : Nat} (h : Tw2 W b0 v1 v2 L1 L2 ts1 ts2 A E wx) (hg : wx.grownBy wy v1.ownBlock) (ho : wy.ownsRow b0 69 9 v' (L1.length + 2) (gfl (L1 ++ [c1, c2]))) (hl : v'.ownBlock = v1.ownBlock ∨ v'.ownBlock = some wx.heap.size)
    (z1 : c1.size = 9) (z2 : c2.size = 9) (k1 : Tol wx lo1 hi1 t1 c1) (k2 : Tol wx lo2 hi2 t2 c2) (hr : b0 ≤ lo1 ∧ lo1 ≤ hi1 ∧ hi1 ≤ lo2 ∧ lo2 ≤ hi2 ∧ hi2 ≤ wx.heap.size) (hlo : ∀ i, i < ts1.length → E i ≤ lo1) (hv : ∀ q, v1.ownBlock = some q ∨ v2.ownBlock = some q → q < lo1) :
    Tw2 W b0 v' v2 (L1 ++ [c1, c2]) L2 (ts1 ++ [t1, t2]) ts2 (fun i => if i = ts1.length then lo1 else if i = ts1.length + 1 then lo2 else A i) (fun i => if i = ts1.length then hi1 else if i = ts1.length + 1 then hi2 else E i) wy := by
  have hkp := kp_grown hg
  have hsz : wx.heap.size ≤ wy.heap.size := hkp.size
  generalize hA' : (fun i => if i = ts1.length then lo1 else if i = ts1.length + 1 then lo2 else A i) = A'
  generalize hE' : (fun i => if i = ts1.length then hi1 else if i = ts1.length + 1 then hi2 else E i) = E'
  have hold : ∀ i, i < ts1.length → A' i = A i ∧ E' i = E i := fun i hi => by
    rw [← hA', ← hE']
    refine ⟨?_, ?_⟩
    · show (if i = ts1.length then lo1 else if i = ts1.length + 1 then lo2 else A i) = A i
      rw [if_neg (by omega), if_neg (by omega)]
    · show (if i = ts1.length then hi1 else if i = ts1.length + 1 then hi2 else E i) = E i
      rw [if_neg (by omega), if_neg (by omega)]
  have hn1 : A' ts1.length = lo1 ∧ E' ts1.length = hi1 := by
    rw [← hA', ← hE']
    exact ⟨if_pos rfl, if_pos rfl⟩
  have hn2 : A' (ts1.length + 1) = lo2 ∧ E' (ts1.length + 1) = hi2 := by
    rw [← hA', ← hE']
    refine ⟨?_, ?_⟩
    · show (if ts1.length + 1 = ts1.length then lo1 else if ts1.length + 1 = ts1.length + 1 then lo2 else A (ts1.length + 1)) = lo2
      rw [if_neg (by omega), if_pos rfl]
    · show (if ts1.length + 1 = ts1.length then hi1 else if ts1.length + 1 = ts1.length + 1 then hi2 else E (ts1.length + 1)) = hi2
      rw [if_neg (by omega), if_pos rfl]
  have hcase : ∀ i, i < (ts1 ++ [t1, t2]).length → i < ts1.length ∨ i = ts1.length ∨ i = ts1.length + 1 := fun i hi => by rw [two_len] at hi; omega
  have hvb : ∀ q, (v'.ownBlock = some q ∨ v2.ownBlock = some q) → (v1.ownBlock = some q ∨ v2.ownBlock = some q) ∨ q = wx.heap.size := fun q e => by
    rcases e with e | e
    · rcases hl with e2 | e2
      · exact .inl (.inl (e2 ▸ e))
      · rw [e2] at e
        exact .inr (Option.some.inj e).symm
    · exact .inl (.inr e)
  refine ⟨by rw [two_len]; exact ho, hkp.owns h.o2 (fun q e s => h.ap q s e), by rw [two_len, two_len, h.n1], h.n2, fun c hc => two_mem (P := fun c => c.size = 9) h.z1 z1 z2 hc, h.z2, fun q e e2 => ?_, fun i hi => ?_, fun i j hij hj => ?_, fun i q hi e => ?_, fun i t c e1 e2 => ?_, h.k2⟩
  · rcases hl with e3 | e3
    · exact h.ap q (e3 ▸ e) e2
    · rw [e3] at e
      have := Option.some.inj e
      have := (h.o2.lt q e2).2
      omega
  · rcases hcase i hi with h1 | rfl | rfl
    · have := hold i h1
      have := h.a i h1
      omega
    · omega
    · omega
  · rcases hcase j hj with h1 | rfl | rfl
    · have := hold i (by omega)
      have := hold j h1
      have := h.d i j hij h1
      omega
    · have := hold i (by omega)
      have := hlo i (by omega)
      omega
    · by_cases h2 : i < ts1.length
      · have := hold i h2
        have := hlo i h2
        omega
      · have h3 : i = ts1.length := by omega
        subst h3
        omega
  · have h4 := hvb q e
    rcases hcase i hi with h1 | rfl | rfl
    · have := hold i h1
      rcases h4 with h4 | h4
      · have := h.g i q h1 h4
        omega
      · have := h.a i h1
        omega
    · rcases h4 with h4 | h4
      · have := hv q h4
        omega
      · omega
    · rcases h4 with h4 | h4
      · have := hv q h4
        omega
      · omega
  · rcases two_at e1 with ⟨h1, e3⟩ | ⟨h1, e3⟩ | ⟨h1, e3⟩
    · rw [(hold i h1).1, (hold i h1).2]
      rw [List.getElem?_append_left (by rw [h.n1]; exact h1)] at e2
      exact (h.k1 i t c e3 e2).kp hkp (fun q s r => by have := h.g i q h1 (.inl s); omega)
    · subst h1
      rw [hn1.1, hn1.2]
      rcases two_at e2 with ⟨h5, _⟩ | ⟨_, h5⟩ | ⟨h5, _⟩
      · have := h.n1; omega
      · rw [e3, h5]
        exact k1.kp hkp (fun q s r => by have := hv q (.inl s); omega)
      · have := h.n1; omega
    · subst h1
      rw [hn2.1, hn2.2]
      rcases two_at e2 with ⟨h5, _⟩ | ⟨h5, _⟩ | ⟨_, h5⟩
      · have := h.n1; omega
      · have := h.n1; omega
      · rw [e3, h5]
        exact k2.kp hkp (fun q s r => by have := hv q (.inl s); omega)
theorem Tw2.put2 {W wx wy : World} {b0 : Nat} {v1 v2 v' : Value} {L1 L2 : List (Array Value)} {ts1 ts2 : List Tp} {A E : Nat → Nat} {c1 c2 : Array Value} {t1 t2 : Tp} (h : Tw2 W b0 v1 v2 L1 L2 ts1 ts2 A E wx) (hg : wx.grownBy wy v2.ownBlock) (ho : wy.ownsRow b0 69 9 v' (L2.length + 2) (gfl (L2 ++ [c1, c2]))) (hl : v'.ownBlock = v2.ownBlock ∨ v'.ownBlock = some wx.heap.size)
    (z1 : c1.size = 9) (z2 : c2.size = 9) (k1 : Tpi W t1 c1) (k2 : Tpi W t2 c2) :
    Tw2 W b0 v1 v' L1 (L2 ++ [c1, c2]) ts1 (ts2 ++ [t1, t2]) A E wy := by
  have hkp := kp_grown hg
  have hsz : wx.heap.size ≤ wy.heap.size := hkp.size
  refine ⟨hkp.owns h.o1 (fun q e s => h.ap q e s), by rw [two_len]; exact ho, h.n1, by rw [two_len, two_len, h.n2], h.z1, fun c hc => two_mem (P := fun c => c.size = 9) h.z2 z1 z2 hc, fun q e e2 => ?_, fun i hi => ⟨(h.a i hi).1, (h.a i hi).2.1, Nat.le_trans (h.a i hi).2.2 hsz⟩, h.d, fun i q hi e => ?_, fun i t c e1 e2 => ?_, fun i t c e1 e2 => ?_⟩
  · rcases hl with e3 | e3
    · exact h.ap q e (e3 ▸ e2)
    · rw [e3] at e2
      have := Option.some.inj e2
      have := (h.o1.lt q e).2
      omega
  · rcases e with e | e
    · exact h.g i q hi (.inl e)
    · rcases hl with e3 | e3
      · exact h.g i q hi (.inr (e3 ▸ e))
      · rw [e3] at e
        have := Option.some.inj e
        have := h.a i hi
        omega
  · have hi := (List.getElem?_eq_some_iff.1 e1).1
    exact (h.k1 i t c e1 e2).kp hkp (fun q s r => by have := h.g i q hi (.inr s); omega)
  · rcases two_at e1 with ⟨h1, e3⟩ | ⟨h1, e3⟩ | ⟨h1, e3⟩
    · rw [List.getElem?_append_left (by rw [h.n2]; exact h1)] at e2
      exact h.k2 i t c e3 e2
    · rcases two_at e2 with ⟨h5, _⟩ | ⟨_, h5⟩ | ⟨h5, _⟩
      · have := h.n2; omega
      · rw [e3, h5]; exact k1
      · have := h.n2; omega
    · rcases two_at e2 with ⟨h5, _⟩ | ⟨h5, _⟩ | ⟨_, h5⟩
      · have := h.n2; omega
      · have := h.n2; omega
      · rw [e3, h5]; exact k2
def tyq (c : Array Value) (q : Nat) : Prop := ∃ v ∈ c.toList, v.ownBlock = some q
theorem Tyo.exact {w : World} {b : Nat} {D : Nat → Prop} {c : Array Value} (h : Tyo w b D c) : Tyo w b (tyq c) c ∧ ∀ q, tyq c q → D q ∧ b ≤ q ∧ q < w.heap.size ∧ ∃ cc T, w.heap[q]? = some (.cells cc T (0, 0)) := by
  obtain ⟨t, vf, vc, vw, nf, nc, nw, xf, xc, xw, e, o1, o2, o3, l1, l2, l3, d1, d2, d3⟩ := h.e
  subst e
  refine ⟨⟨t, vf, vc, vw, nf, nc, nw, xf, xc, xw, rfl, o1, o2, o3, l1, l2, l3, fun q e => ⟨vf, by simp [tpc], e⟩, fun q e => ⟨vc, by simp [tpc], e⟩, fun q e => ⟨vw, by simp [tpc], e⟩⟩, fun q hq => ?_⟩
  obtain ⟨v, hv, e⟩ := hq
  simp only [tpc, List.mem_cons, List.not_mem_nil, or_false] at hv
  rcases hv with rfl | rfl | rfl | rfl | rfl | rfl | rfl | rfl | rfl
  · cases e
  · cases e
  · cases e
  · cases e
  · cases e
  · cases e
  · exact ⟨d1 q e, (o1.lt q e).1, (o1.lt q e).2, own_blk11 o1 q e⟩
  · exact ⟨d2 q e, (o2.lt q e).1, (o2.lt q e).2, own_blk11 o2 q e⟩
  · exact ⟨d3 q e, (o3.lt q e).1, (o3.lt q e).2, own_blk11 o3 q e⟩
theorem Tw2.tyr {W wx : World} {base b0 : Nat} {v1 v2 : Value} {L1 L2 : List (Array Value)} {ts1 ts2 : List Tp} {A E : Nat → Nat} (h : Tw2 W b0 v1 v2 L1 L2 ts1 ts2 A E wx) (hb : base ≤ b0) :
    Tyr wx base (fun q => v1.ownBlock = some q ∨ ∃ (i : Nat) (c : Array Value), L1[i]? = some c ∧ tyq c q) v1 L1 (fun i q => ∃ c, L1[i]? = some c ∧ tyq c q) ∧ ∀ q, (v1.ownBlock = some q ∨ ∃ (i : Nat) (c : Array Value), L1[i]? = some c ∧ tyq c q) → b0 ≤ q ∧ q < wx.heap.size ∧ ∃ cc T, wx.heap[q]? = some (.cells cc T (0, 0)) := by
  have hrow : ∀ (i : Nat) (c : Array Value), L1[i]? = some c → i < ts1.length ∧ ∃ t, Tol wx (A i) (E i) t c := fun i c hc => by
    have hi : i < ts1.length := by rw [← h.n1]; exact (List.getElem?_eq_some_iff.1 hc).1
    exact ⟨hi, ts1[i], h.k1 i _ c (List.getElem?_eq_getElem hi) hc⟩
  have hrng : ∀ (i : Nat) (c : Array Value) (q : Nat), L1[i]? = some c → tyq c q → i < ts1.length ∧ (A i ≤ q ∧ q < E i) ∧ ∃ cc T, wx.heap[q]? = some (.cells cc T (0, 0)) := fun i c q hc hq => by
    obtain ⟨hi, t, ht⟩ := hrow i c hc
    have := ht.y.exact.2 q hq
    exact ⟨hi, this.1, this.2.2.2⟩
  refine ⟨⟨own_mono h.o1 hb, h.z1, fun q e => .inl e, fun i hi q ⟨c, hc, hq⟩ => ⟨.inr ⟨i, c, hc, hq⟩, fun e => ?_⟩, fun i j hij hj q ⟨c, hc, hq⟩ ⟨c', hc', hq'⟩ => ?_, fun i c hc => ?_⟩, fun q e => ?_⟩
  · obtain ⟨h1, h2, _⟩ := hrng i c q hc hq
    have := h.g i q h1 (.inl e)
    omega
  · obtain ⟨h1, h2, _⟩ := hrng i c q hc hq
    obtain ⟨h3, h4, _⟩ := hrng j c' q hc' hq'
    have := h.d i j hij h3
    omega
  · obtain ⟨hi, t, ht⟩ := hrow i c hc
    have hx := ht.y.exact
    have hA := (h.a i hi).1
    exact hx.1.kp (Kp.refl (fun _ => False) wx) (fun _ _ e => e) (fun q hq => ⟨by have := (hx.2 q hq).2.1; omega, c, hc, hq⟩)
  · rcases e with e | ⟨i, c, hc, hq⟩
    · exact ⟨(h.o1.lt q e).1, (h.o1.lt q e).2, own_blk11 h.o1 q e⟩
    · obtain ⟨h1, h2, h3⟩ := hrng i c q hc hq
      have := h.a i h1
      exact ⟨by omega, by omega, h3⟩
theorem Tw2.tsl1 {W wx : World} {b0 : Nat} {v1 v2 : Value} {L1 L2 : List (Array Value)} {ts1 ts2 : List Tp} {A E : Nat → Nat} (h : Tw2 W b0 v1 v2 L1 L2 ts1 ts2 A E wx) (hm : ts1.length ≤ 140737488351232) : TSl wx v1 ts1 := own_gsl h.o1 h.z1 h.n1 hm (fun i t c e1 e2 => (h.k1 i t c e1 e2).p wx (Kp.refl _ _))
theorem Tw2.tsl2 {W wx : World} {b0 : Nat} {v1 v2 : Value} {L1 L2 : List (Array Value)} {ts1 ts2 : List Tp} {A E : Nat → Nat} (h : Tw2 W b0 v1 v2 L1 L2 ts1 ts2 A E wx) (hm : ts2.length ≤ 140737488351232) (hb : Below W.heap.size W wx) : TSl wx v2 ts2 := own_gsl h.o2 h.z2 h.n2 hm (fun i t c e1 e2 => (h.k2 i t c e1 e2).move (keep_below hb))
theorem row2 {ops : Array Oper} {rest : List Oper} {o : Oper} {a : Act} {w : World} {Q : Exit → Act → World → Prop} {S T : TypeId} {z : Value} {k by' : Nat} (hI : (Tryz.prog.info? T).map (fun i => (i.zero, i.size, i.bytes)) = some (some z, k, by')) (hS : Tryz.prog.underlying S = some (.slice T)) (hk : 0 < k) (hk2 : k ≤ 100) (hg : o.guard = none) {x y : Operand} (ho : o.op = .buildSlice S 2 #[(0, x), (1, y)]) {c d : Array Value} (hx : a.eval x = .agg c) (hy : a.eval y = .agg d) (hc : c.size = k) (hd : d.size = k)
    (h : wpList Tryz.prog ops Q rest (a.put o.dst (.slice (some ⟨w.heap.size, 0, none⟩) 2 2)) (w.alloc (.cells (c ++ d) T))) : wpList Tryz.prog ops Q (o :: rest) a w := by
  obtain ⟨i, hi, hz, hs, _⟩ := info_ex hI
  refine wpList_buildSlice hg S T 2 _ ho (c ++ d) i _ hS hi hz (by rw [hs]; omega) (by rw [hs]; omega) ?_ h
  rw [hs]
  have e : (Array.map (fun (i, x) => (i, a.eval x)) #[((0 : Nat), x), (1, y)]).toList = (([.agg c, .agg d] : List Value).zipIdx 0).map fun x => (x.2, x.1) := by
    simp [hx, hy]
  rw [e]
  generalize hX : (Array.range (2 * k)).map (z.cells[· % z.cells.size]!) = X
  have hXs : X.size = 2 * k := by rw [← hX]; simp
  obtain ⟨r, hr, hsz, hk3⟩ := Great.fill_dense (s := k) hk [.agg c, .agg d] 0 X (by
    intro v hv
    rcases List.mem_cons.1 hv with rfl | hv
    · exact hc
    · rw [List.mem_singleton.1 hv]
      exact hd) (by rw [hXs]; simp)
  have e2 : r = c ++ d := by
    apply Array.ext_getElem?
    intro j
    rw [hk3 j, Array.getElem?_append]
    by_cases hj : j < k
    · rw [if_pos ⟨by omega, by simp; omega⟩, if_pos (by omega), Nat.div_eq_of_lt hj, Nat.mod_eq_of_lt hj]
      rfl
    · rw [if_neg (show ¬ j < c.size by omega)]
      by_cases hj2 : j < 2 * k
      · have e3 : j / k = 1 := Nat.div_eq_of_lt_le (by omega) (by omega)
        have e4 : j % k = j - k := by rw [Nat.mod_eq_sub_mod (by omega), Nat.mod_eq_of_lt (by omega)]
        rw [if_pos ⟨by omega, by simp; omega⟩, e3, e4, hc]
        rfl
      · rw [if_neg (by simp; omega), Array.getElem?_eq_none (by omega), Array.getElem?_eq_none (by omega)]
  rw [hr, e2]
theorem append_g2 {ops : Array Oper} {rest : List Oper} {o : Oper} {a : Act} {Q : Exit → Act → World → Prop} {w : World} {S T : TypeId} {z : Value} {k by' : Nat} (hI : (Tryz.prog.info? T).map (fun i => (i.zero, i.size, i.bytes)) = some (some z, k, by')) (hS : Tryz.prog.underlying S = some (.slice T)) (hzs : z.cells.size = k) (hk : 0 < k) (hby : by' ≤ 1000) (hgd : o.guard = none) {s x : Operand}
    (ho : o.op = .call { callee := .builtin .append, args := #[s, x], argTypes := #[S, S] }) {B : Nat} {v : Value} {L : List (Array Value)} (hs : a.eval s = v) (hown : w.ownsRow B T k v L.length (gfl L))
    {g : Nat} {c d : Array Value} (hx : a.eval x = .slice (some ⟨g, 0, none⟩) 2 2) (hg : w.heap[g]? = some (.cells (c ++ d) T (0, 0))) (hc : c.size = k) (hd : d.size = k) (h1 : ∀ u ∈ c.toList, u.oneCell' = true) (h2 : ∀ u ∈ d.toList, u.oneCell' = true) (hlen : L.length ≤ 1000000) (hbase : B ≤ w.heap.size)
    (h : ∀ v' w', w'.ownsRow B T k v' (L.length + 2) (gfl (L ++ [c, d])) → w.grownBy w' v.ownBlock → (v'.ownBlock = v.ownBlock ∨ v'.ownBlock = some w.heap.size) → wpList Tryz.prog ops Q rest (a.put o.dst v') w') : wpList Tryz.prog ops Q (o :: rest) a w := by
  have hb : (L.length + 2) * by' ≤ 140737488355328 := by
    have : (L.length + 2) * by' ≤ 1000002 * 1000 := Nat.mul_le_mul (by omega) hby
    omega
  obtain ⟨i, hi, hz0, hz1, hz2⟩ := info_ex hI
  refine wpList_append_own_at w hgd s x S ho B T i z k by' hS hi hz0 hz1 hz2 hzs hk v L.length (gfl L) hs hown ⟨g, 0, none⟩ 2 2 (c.toList ++ d.toList) hx (by simp [hc, hd]; omega) (fun j u hu => ?_) (fun u hu => ?_) (by unfold maxLen; omega) hb hbase fun v' w' h1 h2 _ h4 => h v' w' (by rw [gfl_app]; simpa [gfl] using h1) h2 h4
  · rw [addr0]
    exact blk_cell hg (by rw [← Array.toList_append, Array.getElem?_toList] at hu; exact hu)
  · rcases List.mem_append.1 hu with hu | hu
    · exact h1 u hu
    · exact h2 u hu
theorem var_new (w1 : World) (Z c : Array Value) : ((w1.alloc (.cells Z 69)).setRow w1.heap.size c).heap[w1.heap.size]? = some (.cells c 69 (0, 0)) ∧ Below w1.heap.size w1 ((w1.alloc (.cells Z 69)).setRow w1.heap.size c) := by
  have hb1 := below_alloc4 w1 (.cells Z 69)
  have hk : Kp (fun _ => False) w1 ((w1.alloc (.cells Z 69)).setRow w1.heap.size c) := (Kp.of_below (S := fun _ => False) hb1).trans (row_kp _ w1.heap.size c) (fun q hq e => by omega)
  exact ⟨row_same (heap_alloc_new w1 _), hk.below (Nat.le_refl _) (fun q e => e.elim)⟩
structure Ti2 (W w3 : World) (N top g : Nat) (l : List Tp) (v1 v2 : Value) (L1 L2 : List (Array Value)) (ts1 ts2 : List Tp) (A E : Nat → Nat) (wx : World) : Prop where
  t : Tst wx N top g l
  k : Kp (fun q => q = g) w3 wx
  x : Tw2 W w3.heap.size v1 v2 L1 L2 ts1 ts2 A E wx
theorem Ti2.next {W w3 wx wy : World} {N top g : Nat} {l : List Tp} {v1 v2 : Value} {L1 L2 : List (Array Value)} {ts1 ts2 : List Tp} {A E : Nat → Nat} (h : Ti2 W w3 N top g l v1 v2 L1 L2 ts1 ts2 A E wx) (hb : Below wx.heap.size wx wy) : Ti2 W w3 N top g l v1 v2 L1 L2 ts1 ts2 A E wy :=
  ⟨h.t.next hb, h.k.trans (Kp.of_below (S := fun _ => False) hb) (fun _ _ e => e.elim), h.x.next hb⟩
theorem Ti2.fill {W w3 wx wy : World} {N top g : Nat} {l : List Tp} {v1 v2 : Value} {L1 L2 : List (Array Value)} {ts1 ts2 : List Tp} {A E : Nat → Nat} (h : Ti2 W w3 N top g l v1 v2 L1 L2 ts1 ts2 A E wx) (hk : Kp (fun q => q = g) wx wy) (ht : Tst wy N top g l) (hg : g < w3.heap.size) : Ti2 W w3 N top g l v1 v2 L1 L2 ts1 ts2 A E wy :=
  ⟨ht, h.k.trans hk (fun _ _ e => e), h.x.kp hk (fun q e => by omega)⟩
theorem Ti2.tst_new {w3 wx wy : World} {N top g : Nat} {l : List Tp} {v : Value} {b0 n : Nat} {xs : List Value} (h : Tst wx N top g l) (hk : Kp (fun q => q = g) w3 wx) (hg : wx.grownBy wy v.ownBlock) (ho : wx.ownsRow b0 69 9 v n xs) (h0 : w3.heap.size ≤ b0) (ht : top ≤ w3.heap.size) : Tst wy N top g l ∧ Kp (fun q => q = g) w3 wy :=
  ⟨h.kps (kp_grown hg) (fun q e => .inr (by have := (ho.lt q e).1; omega)) (fun q e => own_blk11 ho q e), hk.trans (kp_grown hg) (fun q hq e => by have := (ho.lt q e).1; omega)⟩
end
section
open Go.RowKit Go
set_option maxRecDepth 1000000 in
set_option maxHeartbeats 1000000 in
theorem ref11_any (w : World) (v : Value) (L : List ByteArray) (hv : SSl w v L) (r : Rf) : Calls Tryz.prog 116 #[v, .agg #[.string r.n, .bool r.z]] w fun e w' => e = .returned (.bool (!lck L r)) ∧ Below w.heap.size w w' := by
  have HB1 := hide (below_alloc4 w (.cells #[.string r.n, .bool r.z] 65))
  have HX := hide (heap_alloc_new w (.cells #[.string r.n, .bool r.z] 65))
  have HV := hide (hv.move (keep_below HB1.out))
  obtain ⟨⟨al, cl, rfl, -, -⟩, -, -⟩ := hv
  go_enter Tryz.func116, Tryz.ntmps116
  go_upto_region 1 with fail
  generalize w.alloc (.cells #[.string r.n, .bool r.z] 65) = w1 at *
  have k0 := blk_cell (j := 0) HX.out rfl
  have k1 := blk_cell (j := 1) HX.out rfl
  clear HX
  have HL : Hid (lck L r = (!r.z && !memb L r.n)) := rfl
  cases hz : r.z with
  | true =>
    rw [hz] at k1 HL
    clear hz
    go_wp2_with fail
    go_ret
    exact ⟨by rw [HL.out]; rfl, HB1.out⟩
  | false =>
    rw [hz] at k1 HL
    clear hz
    go_wp2_with fail
    refine (is11_any w1 _ L HV.out r.n).mono ?_
    rintro e wq ⟨rfl, hwq⟩
    have hwq := hwq.symm
    subst hwq
    go_wp2_with fail
    go_ret
    exact ⟨by rw [HL.out]; simp, HB1.out⟩
set_option maxRecDepth 1000000 in
set_option maxHeartbeats 2000000 in
theorem rule11_any (w : World) (v : Value) (L : List ByteArray) (hv : SSl w v L) (t : Tp) (c : Array Value) (hc : Tpi w t c) : Calls Tryz.prog 63 #[v, .agg c] w fun e w' => e = .returned (.bool (rulb L t)) ∧ Below w.heap.size w w' := by
  have hK := hc.b.k
  have hLO := hc.b.lo
  obtain ⟨⟨vf, vc, vw, rfl, ⟨⟨af, cf, rfl, -, hF⟩, hFm⟩, ⟨⟨ac, cc, rfl, -, hC⟩, hCm⟩, ⟨⟨aw, cw, rfl, -, -⟩, -, -⟩⟩, -⟩ := hc
  unfold tpc
  have HBL := hide (below_alloc4 w (.cells #[.string t.n, .int .i64 t.k, .int .i64 t.lo, .int .i64 t.hi, .string t.r.n, .bool t.r.z, .slice af t.fs.length cf, .slice ac t.cs.length cc, .slice aw t.ws.length cw] 69))
  have HX := hide (heap_alloc_new w (.cells #[.string t.n, .int .i64 t.k, .int .i64 t.lo, .int .i64 t.hi, .string t.r.n, .bool t.r.z, .slice af t.fs.length cf, .slice ac t.cs.length cc, .slice aw t.ws.length cw] 69))
  have HF : Hid (t.fs = [] ∨ ∃ b off, af = some ⟨b, off, none⟩ ∧ ∀ i x, t.fs[i]? = some x → ∀ j u, (fdc x)[j]? = some u → ∀ wy, Below w.heap.size w wy → wy.cell? ⟨b, off + i * 5 + j, none⟩ = some u) := hF.imp id (fun ⟨b, off, h1, h2⟩ => ⟨b, off, h1, fun i x hi j u hj wy hy => by
    obtain ⟨d, h3, h4⟩ := h2 i x hi
    rw [← h3.1] at hj
    exact keep_below hy _ _ (h4 j u hj)⟩)
  have HCC : Hid (t.cs = [] ∨ ∃ b off, ac = some ⟨b, off, none⟩ ∧ ∀ i x, t.cs[i]? = some x → ∀ j u, (czc x)[j]? = some u → ∀ wy, Below w.heap.size w wy → wy.cell? ⟨b, off + i * 2 + j, none⟩ = some u) := hC.imp id (fun ⟨b, off, h1, h2⟩ => ⟨b, off, h1, fun i x hi j u hj wy hy => by
    obtain ⟨d, h3, h4⟩ := h2 i x hi
    rw [← h3.1] at hj
    exact keep_below hy _ _ (h4 j u hj)⟩)
  have HHA : Hid (∀ wy, Below w.heap.size w wy → ∀ r : Rf, Calls Tryz.prog 116 #[v, .agg #[.string r.n, .bool r.z]] wy fun e w' => e = .returned (.bool (!lck L r)) ∧ Below wy.heap.size wy w') := fun wy hy r => ref11_any wy v L (hv.move (keep_below hy)) r
  have HIS : Hid (∀ wy, Below w.heap.size w wy → ∀ s, Calls Tryz.prog 55 #[v, .string s] wy fun e w' => e = .returned (.bool (memb L s)) ∧ w' = wy) := fun wy hy s => is11_any wy v L (hv.move (keep_below hy)) s
  obtain ⟨⟨al, cl, rfl, -, -⟩, -, -⟩ := hv
  clear hF hC
  have HIR := hide infoRf
  have HAR : Hid (∀ w, (isAgg 65).run Tryz.prog w = .ok true w) := aggRf
  go_enter Tryz.func63, Tryz.ntmps63
  go_upto_region 1 with fail
  generalize w.alloc (.cells #[.string t.n, .int .i64 t.k, .int .i64 t.lo, .int .i64 t.hi, .string t.r.n, .bool t.r.z, .slice af t.fs.length cf, .slice ac t.cs.length cc, .slice aw t.ws.length cw] 69) = w1 at *
  have k1 := blk_cell (j := 1) HX.out rfl
  have k2 := blk_cell (j := 2) HX.out rfl
  have HRF : Hid (∀ j u, (#[.string t.r.n, .bool t.r.z] : Array Value)[j]? = some u → w1.cell? ⟨w.heap.size, 4 + j, none⟩ = some u) := sub_cell HX.out (fun j u hj => by
    rcases j with _ | _ | j
    · exact hj
    · exact hj
    · simp at hj)
  have HK := hide hK
  clear hK hLO
  by_cases h1 : t.k = 1
  · as_aux_lemma =>
    have g1 : (t.k == 1) = true := by rw [h1]; rfl
    have HR : Hid (rulb L t = !lck L t.r) := by show _ = _; unfold rulb; rw [if_pos h1]
    clear h1 HF HCC
    go_wp2_with (refine wpList_aggAt rfl rfl HIR.out HAR.out w.heap.size 4 #[.string t.r.n, .bool t.r.z] rfl rfl HRF.out ?_)
    refine (HHA.out w1 HBL.out t.r).mono ?_
    rintro e w2 ⟨rfl, hb2⟩
    have HB2 : Hid (Below w.heap.size w w2) := HBL.out.trans (hb2.mono HBL.out.size)
    clear hb2
    go_wp2_with fail
    go_ret
    exact ⟨by rw [HR.out]; rfl, HB2.out⟩
  have g1 : (t.k == 1) = false := beq_eq_false_iff_ne.2 h1
  by_cases h3 : t.k = 3 ∨ t.k = 4
  · as_aux_lemma =>
    have HR : Hid (rulb L t = (decide (t.lo = 0) || !lck L t.r)) := by show _ = _; unfold rulb; rw [if_neg h1, if_pos h3]
    have g3 : (t.k == 3) = true ∨ ((t.k == 3) = false ∧ (t.k == 4) = true) := by
      rcases h3 with h3 | h3
      · exact .inl (by rw [h3]; rfl)
      · exact .inr ⟨by rw [h3]; rfl, by rw [h3]; rfl⟩
    clear h3 h1 HF HCC HK
    rcases g3 with g3 | ⟨g3, g4⟩
    all_goals
      by_cases hl : t.lo = 0
      · have gl : (t.lo == 0) = true := by rw [hl]; rfl
        rw [decide_eq_true hl] at HR
        clear hl
        go_wp2_with fail
        go_ret
        exact ⟨by rw [HR.out]; rfl, HBL.out⟩
      · have gl : (t.lo == 0) = false := beq_eq_false_iff_ne.2 hl
        rw [decide_eq_false hl] at HR
        clear hl
        go_wp2_with (refine wpList_aggAt rfl rfl HIR.out HAR.out w.heap.size 4 #[.string t.r.n, .bool t.r.z] rfl rfl HRF.out ?_)
        refine (HHA.out w1 HBL.out t.r).mono ?_
        rintro e w2 ⟨rfl, hb2⟩
        have HB2 : Hid (Below w.heap.size w w2) := HBL.out.trans (hb2.mono HBL.out.size)
        clear hb2
        go_wp2_with fail
        go_ret
        exact ⟨by rw [HR.out, Bool.false_or]; rfl, HB2.out⟩
  have g3 : (t.k == 3) = false := beq_eq_false_iff_ne.2 (fun e => h3 (.inl e))
  have g4 : (t.k == 4) = false := beq_eq_false_iff_ne.2 (fun e => h3 (.inr e))
  by_cases h5 : t.k = 5 ∨ t.k = 6
  · as_aux_lemma =>
    have HR0 : Hid (rulb L t = !t.fs.any fun f => !f.m && lck L f.r) := by show _ = _; unfold rulb; rw [if_neg h1, if_neg h3, if_pos h5]
    have g5 : (t.k == 5) = true ∨ ((t.k == 5) = false ∧ (t.k == 6) = true) := by
      rcases h5 with h5 | h5
      · exact .inl (by rw [h5]; rfl)
      · exact .inr ⟨by rw [h5]; rfl, by rw [h5]; rfl⟩
    have HB0 : Hid (Below w1.heap.size w1 w1) := Below.refl _ _
    clear h5 h3 h1 HCC HK
    rcases g5 with g5 | ⟨g5, g6⟩
    all_goals
      have k6 := blk_cell (j := 6) HX.out rfl
      go_wp2_with fail
      clear k6
      go_loopw [5] (fun vi wx => ∃ i : Nat, i ≤ t.fs.length ∧ vi = .int .i64 (i : Nat) ∧ Hid (Below w1.heap.size w1 wx) ∧ Hid (∀ j x, j < i → t.fs[j]? = some x → (!x.m && lck L x.r) = false)) (fun vi _ => t.fs.length - (intOf vi).toNat)
      case atStart => exact ⟨0, by omega, rfl, HB0, fun j _ hj => absurd hj (by omega)⟩
      case round =>
        obtain ⟨i, hi, rfl, HBx, HN⟩ := hrel
        have k6 : wr.cell? ⟨w.heap.size, 6, none⟩ = some (.slice af t.fs.length cf) := blk_cell (j := 6) ((HBx.out.block _ (blk_lt HX.out)).trans HX.out) rfl
        have HBW : Hid (Below w.heap.size w wr) := HBL.out.trans (HBx.out.mono HBL.out.size)
        by_cases hlt : i < t.fs.length
        · have gi : (i : Int) < (t.fs.length : Int) := by omega
          obtain ⟨b, off, rfl, hcc⟩ := HF.out.resolve_left (fun h => by rw [h] at hlt; simp at hlt)
          obtain ⟨x, hx⟩ : ∃ x, t.fs[i]? = some x := ⟨_, List.getElem?_eq_getElem hlt⟩
          have q4 := hcc i x hx 4 (.bool x.m) rfl wr HBW.out
          have HRX : Hid (∀ j u, (#[.string x.r.n, .bool x.r.z] : Array Value)[j]? = some u → wr.cell? ⟨b, off + i * 5 + 2 + j, none⟩ = some u) := fun j u hj => by
            rw [Nat.add_assoc _ 2 j]
            refine hcc i x hx (2 + j) u ?_ wr HBW.out
            rcases j with _ | _ | j
            · exact hj
            · exact hj
            · simp at hj
          have HXI := hide hx
          have HN2 : (!x.m && lck L x.r) = false → Hid (∀ j y, j < i + 1 → t.fs[j]? = some y → (!y.m && lck L y.r) = false) := fun h j y hj hy => by
            by_cases e : j = i
            · subst e
              rw [HXI.out] at hy
              rw [← Option.some.inj hy]
              exact h
            · exact HN.out j y (by omega) hy
          have HN3 := hide HN2
          clear hx hcc HF HN HN2
          cases hm : x.m with
          | true =>
            have HN4 := hide (HN3.out (by rw [hm]; rfl))
            rw [hm] at q4
            clear hm HN3
            go_wp2_with fail
            go_roundw
            case rel => exact ⟨i + 1, by omega, by go_num, HBx, HN4.out⟩
            case measure => simp [intOf]; omega
          | false =>
            rw [hm] at q4
            have HMZ := hide hm
            clear hm
            go_wp2_with (refine wpList_aggAt rfl rfl HIR.out HAR.out b (off + i * 5 + 2) #[.string x.r.n, .bool x.r.z] rfl rfl HRX.out ?_)
            refine (HHA.out wr HBW.out x.r).mono ?_
            rintro e w2 ⟨rfl, hb2⟩
            have HB2 : Hid (Below w1.heap.size w1 w2) := HBx.out.trans (hb2.mono HBx.out.size)
            have HBW2 : Hid (Below w.heap.size w w2) := HBW.out.trans (hb2.mono HBW.out.size)
            clear hb2 k6 q4
            cases hb : lck L x.r with
            | false =>
              have HN4 := hide (HN3.out (by rw [hb]; simp))
              clear hb HN3
              go_wp2_with fail
              go_roundw
              case rel => exact ⟨i + 1, by omega, by go_num, HB2, HN4.out⟩
              case measure => simp [intOf]; omega
            | true =>
              have HR : Hid (rulb L t = false) := by
                show _ = _
                rw [HR0.out, any_hit HXI.out (by rw [HMZ.out, hb]; rfl)]
                rfl
              clear hb HN3
              go_wp2_with fail
              go_ret
              exact ⟨by rw [HR.out]; rfl, HBW2.out⟩
        · have gi : ¬ (i : Int) < (t.fs.length : Int) := by omega
          have HR : Hid (rulb L t = true) := by
            show _ = _
            rw [HR0.out, any_no HN.out (by omega)]
            rfl
          go_wp2_with fail
          go_ret
          exact ⟨by rw [HR.out]; rfl, HBW.out⟩
  have g5 : (t.k == 5) = false := beq_eq_false_iff_ne.2 (fun e => h5 (.inl e))
  have g6 : (t.k == 6) = false := beq_eq_false_iff_ne.2 (fun e => h5 (.inr e))
  by_cases h7 : t.k = 7 ∨ t.k = 8
  · as_aux_lemma =>
    have HR0 : Hid (rulb L t = t.cs.any fun c => memb L c.n) := by show _ = _; unfold rulb; rw [if_neg h1, if_neg h3, if_neg h5, if_pos h7]
    have g7 : (t.k == 7) = true ∨ ((t.k == 7) = false ∧ (t.k == 8) = true) := by
      rcases h7 with h7 | h7
      · exact .inl (by rw [h7]; rfl)
      · exact .inr ⟨by rw [h7]; rfl, by rw [h7]; rfl⟩
    have k7 := blk_cell (j := 7) HX.out rfl
    clear h7 h5 h3 h1 HF HK HX
    rcases g7 with g7 | ⟨g7, g8⟩
    all_goals
      go_wp2_with fail
      go_loopw [6] (fun vi wx => ∃ i : Nat, i ≤ t.cs.length ∧ vi = .int .i64 (i : Nat) ∧ wx = w1 ∧ Hid (∀ j x, j < i → t.cs[j]? = some x → memb L x.n = false)) (fun vi _ => t.cs.length - (intOf vi).toNat)
      case atStart => exact ⟨0, by omega, rfl, rfl, fun j _ hj => absurd hj (by omega)⟩
      case round =>
        obtain ⟨i, hi, rfl, hw, HN⟩ := hrel
        subst hw
        by_cases hlt : i < t.cs.length
        · have gi : (i : Int) < (t.cs.length : Int) := by omega
          obtain ⟨b, off, rfl, hcc⟩ := HCC.out.resolve_left (fun h => by rw [h] at hlt; simp at hlt)
          obtain ⟨x, hx⟩ : ∃ x, t.cs[i]? = some x := ⟨_, List.getElem?_eq_getElem hlt⟩
          have q1 := hcc i x hx 1 (.string x.n) rfl wr HBL.out
          have HXI := hide hx
          have HN2 : memb L x.n = false → Hid (∀ j y, j < i + 1 → t.cs[j]? = some y → memb L y.n = false) := fun h j y hj hy => by
            by_cases e : j = i
            · subst e
              rw [HXI.out] at hy
              rw [← Option.some.inj hy]
              exact h
            · exact HN.out j y (by omega) hy
          have HN3 := hide HN2
          clear hx hcc HCC HN HN2
          go_wp2_with fail
          refine (HIS.out wr HBL.out _).mono ?_
          rintro e wq ⟨rfl, hwq⟩
          have hwq := hwq.symm
          subst hwq
          cases hb : memb L x.n with
          | true =>
            have HR : Hid (rulb L t = true) := by
              show _ = _
              rw [HR0.out, any_hit HXI.out hb]
            clear hb HN3
            go_wp2_with fail
            go_ret
            exact ⟨by rw [HR.out]; rfl, HBL.out⟩
          | false =>
            have HN4 := hide (HN3.out hb)
            clear hb HN3
            go_wp2_with fail
            go_roundw
            case rel => exact ⟨i + 1, by omega, by go_num, trivial, HN4.out⟩
            case measure => simp [intOf]; omega
        · have gi : ¬ (i : Int) < (t.cs.length : Int) := by omega
          have HR : Hid (rulb L t = false) := by
            show _ = _
            rw [HR0.out, any_no HN.out (by omega)]
          go_wp2_with fail
          go_ret
          exact ⟨by rw [HR.out]; rfl, HBL.out⟩
  as_aux_lemma =>
  have g7 : (t.k == 7) = false := beq_eq_false_iff_ne.2 (fun e => h7 (.inl e))
  have g8 : (t.k == 8) = false := beq_eq_false_iff_ne.2 (fun e => h7 (.inr e))
  have HR := hide (rulb_0 (L := L) h1 h3 h5 h7)
  clear h1 h3 h5 h7 HF HCC
  go_wp2_with fail
  go_ret
  exact ⟨by rw [HR.out]; rfl, HBL.out⟩
end
section
open Go.RowKit Go
def blc : Array Value := #[.string ⟨#[97, 110, 121]⟩, .string ⟨#[98, 111, 111, 108]⟩, .string ⟨#[98, 121, 116, 101, 115]⟩, .string ⟨#[102, 108, 111, 97, 116]⟩, .string ⟨#[105, 110, 116]⟩, .string ⟨#[108, 105, 110, 107]⟩, .string ⟨#[110, 117, 108, 108]⟩, .string ⟨#[115, 105, 110, 103, 108, 101]⟩, .string ⟨#[116, 101, 120, 116]⟩]
theorem bltn_sz : ∀ s ∈ bltn, s.size ≤ 140737488351232 := by
  have h : bltn.all (fun s => decide (s.size ≤ 140737488351232)) = true := by decide
  exact fun s hs => of_decide_eq_true (List.all_eq_true.1 h s hs)
set_option maxRecDepth 1000000 in
set_option maxHeartbeats 1000000 in
theorem builtIn11_own (w : World) : Calls Tryz.prog 25 #[] w fun e w' => ∃ a n c, e = .returned (.slice a n c) ∧ Hid (Srw w.heap.size w.heap.size (.slice a n c) bltn w' ∧ Below w.heap.size w w') := by
  go_enter Tryz.func25, Tryz.ntmps25
  go_wp2_with fail
  go_ret
  have hX := heap_alloc_new w (.cells blc 9)
  have hB := below_alloc4 w (.cells blc 9)
  refine ⟨_, _, _, rfl, ⟨?_, fun q e => .inl (Option.some.inj e).symm, bltn_sz⟩, hB⟩
  exact ⟨rfl, .inr ⟨w.heap.size, 9, blc, rfl, Nat.le_refl _, hX, Nat.le_refl _, by unfold maxLen; omega, rfl, rfl⟩⟩
structure Fdw (w : World) (v : Value) (L : List ByteArray) (wx : World) : Prop where
  r : Srw w.heap.size w.heap.size v L wx
  b : Below w.heap.size w wx
theorem Fdw.next {w wx wy : World} {v : Value} {L : List ByteArray} (h : Fdw w v L wx) (hb : Below wx.heap.size wx wy) : Fdw w v L wy := ⟨h.r.next hb, h.b.trans (hb.mono h.b.size)⟩
theorem Fdw.law {w wx : World} {a0 : Option Addr} {n0 c0 : Nat} {L : List ByteArray} {x : ByteArray} (h : Fdw w (.slice a0 n0 c0) L wx) (hx : x.size ≤ 140737488351232) (hn : L.length ≤ 100000) {ops : Array Oper} {rest : List Oper} {o : Oper} {ac : Act} {Q : Exit → Act → World → Prop} {s y : Operand} (h1 : o.guard = none) (h2 : o.op = .call { callee := .builtin .append, args := #[s, y], argTypes := #[23, 23] }) (h3 : ac.eval s = .slice a0 n0 c0) (h4 : ac.eval y = .slice (some ⟨wx.heap.size, 0, none⟩) 1 1)
    (h5 : ∀ a9 n9 c9 w', Hid (Fdw w (.slice a9 n9 c9) (L ++ [x]) w') → wpList Tryz.prog ops Q rest (ac.put o.dst (.slice a9 n9 c9)) w') : wpList Tryz.prog ops Q (o :: rest) ac (wx.alloc (.cells #[.string x] 9)) := by
  have h' := h.next (below_alloc4 wx (.cells #[.string x] 9))
  refine Srw.law h'.r hx (by omega) h'.b.size h'.b.size (heap_alloc_new wx _) h1 h2 h3 h4 (fun a9 n9 c9 w' hP => h5 a9 n9 c9 w' ⟨hP.out.1, h'.b.trans ((kp_grown hP.out.2.1).below h'.b.size (fun q e => ?_))⟩)
  rcases h'.r.p q e with e | e <;> omega
theorem rfd_step (A : List ByteArray) (l : List Tp) (i : Nat) (t : Tp) (h : l[i]? = some t) : rfd A (l.take (i + 1)) = rfd1 (rfd A (l.take i)) t := by
  unfold rfd
  rw [takeP l i t h, List.foldl_append]
  rfl
set_option maxRecDepth 1000000 in
set_option maxHeartbeats 2000000 in
theorem rfilled11_any (w : World) (v : Value) (l : List Tp) (hv : TSl w v l) (hl : l.length ≤ 80) (s : ByteArray) : Calls Tryz.prog 29 #[v, .string s] w fun e w' => e = .returned (.bool (memb (rfds l l.length) s)) ∧ Below w.heap.size w w' := by
  have HV := hide hv
  obtain ⟨⟨av, cv, rfl, _, _⟩, _⟩ := hv
  have HI := hide infoTp
  have HAG : Hid (∀ w, (isAgg 69).run Tryz.prog w = .ok true w) := aggTp
  go_enter Tryz.func29, Tryz.ntmps29
  go_wp2_with fail
  refine (builtIn11_own w).mono ?_
  rintro e w1 ⟨a1, n1, c1, rfl, hP⟩
  have HW1 : Hid (Fdw w (.slice a1 n1 c1) (rfds l 0) w1) := ⟨hP.out.1, hP.out.2⟩
  clear hP
  go_wp2_with fail
  go_loopw [5, 6] (fun vk vn wx => ∃ (n : Nat) (a0 : Option Addr) (n0 c0 : Nat), n ≤ l.length ∧ vk = .slice a0 n0 c0 ∧ vn = .int .i64 (n : Nat) ∧ Hid (Fdw w (.slice a0 n0 c0) (rfds l n) wx ∧ (rfds l n).length ≤ 9 + n * 80)) (fun _ vn _ => l.length - (intOf vn).toNat)
  case atStart => exact ⟨0, _, _, _, by omega, rfl, rfl, HW1.out, by show bltn.length ≤ _; decide⟩
  case round =>
    obtain ⟨n, a0, n0, c0, hn, rfl, rfl, HP⟩ := hrel
    clear HW1
    by_cases hlt : n < l.length
    · have g1 : (n : Int) < (l.length : Int) := by omega
      have HP0 : Hid (Fdw w (.slice a0 n0 c0) (rfd (rfds l n) (l.take 0)) wr ∧ (rfd (rfds l n) (l.take 0)).length ≤ 9 + n * 80 + 0) := HP.out
      clear HP
      go_wp2_with fail
      go_loopw [5, 7] (fun vk vi wx => ∃ (i : Nat) (a0 : Option Addr) (n0 c0 : Nat), i ≤ l.length ∧ vk = .slice a0 n0 c0 ∧ vi = .int .i64 (i : Nat) ∧ Hid (Fdw w (.slice a0 n0 c0) (rfd (rfds l n) (l.take i)) wx ∧ (rfd (rfds l n) (l.take i)).length ≤ 9 + n * 80 + i)) (fun _ vi _ => l.length - (intOf vi).toNat)
      case atStart => exact ⟨0, _, _, _, by omega, rfl, rfl, HP0⟩
      case round =>
        rename World => X1
        obtain ⟨i, a2, n2, c2, hi, rfl, rfl, HP⟩ := hrel
        clear HP0
        by_cases hlt2 : i < l.length
        · have g2 : (i : Int) < (l.length : Int) := by omega
          obtain ⟨t, ht⟩ : ∃ t, l[i]? = some t := ⟨l[i], List.getElem?_eq_getElem hlt2⟩
          obtain ⟨b, off, c, e2, h1, h2, h3, h4⟩ := tsl_at HV.out ht
          subst e2
          have HST := hide (rfd_step (rfds l n) l i t ht)
          have HZ9 := hide h1.size9
          have HTS := hide h4
          have HT1 : Hid (∀ wy, Below w.heap.size w wy → Tpi wy t c) := fun wy hy => h1.move (keep_below hy)
          have HC1 : Hid (∀ j u, c[j]? = some u → X1.cell? ⟨b, off + i * 9 + j, none⟩ = some u) := fun j u hj => keep_below HP.out.1.b _ _ (h2 j u hj)
          have HCN : Hid (∀ wy, Below w.heap.size w wy → wy.cell? ⟨b, off + i * 9, none⟩ = some (.string t.n)) := fun wy hy => keep_below hy _ _ h3
          obtain ⟨L, hL⟩ : ∃ L, L = rfd (rfds l n) (l.take i) := ⟨_, rfl⟩
          rw [← hL] at HP HST
          clear hL
          have HLN : Hid (L.length ≤ 100000) := by
            have h := HP.out.2
            show _ ≤ _
            omega
          have HLB : Hid (L.length ≤ 9 + n * 80 + i) := HP.out.2
          have HSL : Hid (SSl X1 (.slice a2 n2 c2) L) := HP.out.1.r.ssl (by have := HLN.out; omega)
          have q3 := HCN.out X1 HP.out.1.b
          clear h1 h2 h3 h4 ht
          go_wp2_with fail
          refine (is11_any X1 _ L HSL.out t.n).mono ?_
          rintro e wq ⟨rfl, hwq⟩
          have hwq := hwq.symm
          subst hwq
          cases hm : memb L t.n with
          | true =>
            have HP2 : Hid (Fdw w (.slice a2 n2 c2) (rfd (rfds l n) (l.take (i + 1))) X1 ∧ (rfd (rfds l n) (l.take (i + 1))).length ≤ 9 + n * 80 + (i + 1)) := by
              have e : rfd1 L t = L := by unfold rfd1; rw [hm]; rfl
              show _ ∧ _
              rw [HST.out, e]
              exact ⟨HP.out.1, by have := HP.out.2; omega⟩
            clear hm HP
            go_wp2_with fail
            go_roundw
            case rel => (repeat (first | exact ⟨⟨i + 1, _, _, _, by omega, rfl, by go_num, HP2⟩, rfl⟩ | exact ⟨i + 1, _, _, _, by omega, rfl, by go_num, HP2⟩ | apply Exists.intro))
            case measure => simp [intOf]; omega
          | false =>
            go_wp2_with (refine wpList_aggAt rfl rfl HI.out HAG.out b (off + i * 9) c rfl HZ9.out HC1.out ?_)
            refine (rule11_any X1 _ L HSL.out t c (HT1.out _ HP.out.1.b)).mono ?_
            rintro e X2 ⟨rfl, hb2⟩
            have HF2 := hide (HP.out.1.next hb2)
            have q4 := HCN.out X2 HF2.out.b
            clear hb2 q3 HP HSL
            cases hr : rulb L t with
            | false =>
              have HP2 : Hid (Fdw w (.slice a2 n2 c2) (rfd (rfds l n) (l.take (i + 1))) X2 ∧ (rfd (rfds l n) (l.take (i + 1))).length ≤ 9 + n * 80 + (i + 1)) := by
                have e : rfd1 L t = L := by unfold rfd1; rw [hm, hr]; rfl
                show _ ∧ _
                rw [HST.out, e]
                exact ⟨HF2.out, by have := HLB.out; omega⟩
              clear hm hr HF2
              go_wp2_with fail
              go_roundw
              case rel => (repeat (first | exact ⟨⟨i + 1, _, _, _, by omega, rfl, by go_num, HP2⟩, rfl⟩ | exact ⟨i + 1, _, _, _, by omega, rfl, by go_num, HP2⟩ | apply Exists.intro))
              case measure => simp [intOf]; omega
            | true =>
              have HE : Hid (rfd (rfds l n) (l.take (i + 1)) = L ++ [t.n]) := by
                show _ = _
                rw [HST.out]
                unfold rfd1
                rw [hm, hr]
                rfl
              clear hm hr
              go_wp2_with (refine Fdw.law HF2.out HTS.out HLN.out rfl rfl rfl rfl ?_; intro a9 n9 c9 w9 HP9)
              have HP2 : Hid (Fdw w (.slice a9 n9 c9) (rfd (rfds l n) (l.take (i + 1))) w9 ∧ (rfd (rfds l n) (l.take (i + 1))).length ≤ 9 + n * 80 + (i + 1)) := by
                show _ ∧ _
                rw [HE.out]
                exact ⟨HP9.out, by have := HLB.out; rw [List.length_append, List.length_singleton]; omega⟩
              clear HP9 HF2 q4
              go_wp2_with fail
              go_roundw
              case rel => (repeat (first | exact ⟨⟨i + 1, _, _, _, by omega, rfl, by go_num, HP2⟩, rfl⟩ | exact ⟨i + 1, _, _, _, by omega, rfl, by go_num, HP2⟩ | apply Exists.intro))
              case measure => simp [intOf]; omega
        have g2 : ¬ (i : Int) < (l.length : Int) := by omega
        have HP2 : Hid (Fdw w (.slice a2 n2 c2) (rfds l (n + 1)) X1 ∧ (rfds l (n + 1)).length ≤ 9 + (n + 1) * 80) := by
          have h := HP.out
          rw [List.take_of_length_le (show l.length ≤ i by omega)] at h
          exact ⟨h.1, by have h2 : (rfds l (n + 1)).length ≤ 9 + n * 80 + i := h.2; omega⟩
        clear HP
        go_wp2_with fail
        go_roundw
        case rel => (repeat (first | exact ⟨⟨n + 1, _, _, _, by omega, rfl, by go_num, HP2⟩, rfl⟩ | exact ⟨n + 1, _, _, _, by omega, rfl, by go_num, HP2⟩ | apply Exists.intro))
        case measure => simp [intOf]; omega
    have g1 : ¬ (n : Int) < (l.length : Int) := by omega
    have hnl : n = l.length := by omega
    have HP2 : Hid (Fdw w (.slice a0 n0 c0) (rfds l l.length) wr ∧ (rfds l l.length).length ≤ 9 + n * 80) := by have h := HP.out; rw [hnl] at h ⊢; exact h
    have HSL : Hid (SSl wr (.slice a0 n0 c0) (rfds l l.length)) := HP2.out.1.r.ssl (by have := HP2.out.2; omega)
    clear HP hnl
    go_wp2_with fail
    refine (is11_any wr _ _ HSL.out s).mono ?_
    rintro e wq ⟨rfl, hwq⟩
    have hwq := hwq.symm
    subst hwq
    go_wp2_with fail
    go_ret
    exact ⟨rfl, HP2.out.1.b⟩
end
section
open Go.RowKit Go
theorem rnm_step (l : List Tp) (i : Nat) (t : Tp) (h : l[i]? = some t) : rnm (l.take (i + 1)) = rins (rnm (l.take i)) t.n := by
  unfold rnm
  rw [takeP l i t h, List.foldl_append]
  rfl
theorem rins_len (L : List ByteArray) (s : ByteArray) : (rins L s).length = L.length + 1 := by
  unfold rins
  have := congrArg List.length (List.takeWhile_append_dropWhile (p := lt11 s) (l := L))
  rw [List.length_append] at this
  rw [List.length_append, List.length_append, List.length_singleton]
  omega
theorem less11 (x s : ByteArray) : Op.bytesLess x.toList s.toList = lt11 s x := by
  unfold lt11 bl11
  rw [bytesLess_eq, ByteArray.toList_eq, ByteArray.toList_eq]
theorem ssl_cel11 {w : World} {gb c : Nat} {ns : List ByteArray} (h : SSl w (.slice (some ⟨gb, 0, none⟩) ns.length c) ns) {j : Nat} {s : ByteArray} (hj : ns[j]? = some s) : w.cell? ⟨gb, j, none⟩ = some (.string s) := by
  obtain ⟨⟨a, cap, e, _, hc⟩, _, _⟩ := h
  injection e with e1 _ _
  rcases hc with hc | ⟨b, off, ha, hc⟩
  · rw [hc] at hj; simp at hj
  · have e2 := Option.some.inj (e1.trans ha)
    injection e2 with e3 e4 _
    subst e3
    subst e4
    have := hc j s hj
    rw [Nat.zero_add] at this
    exact this
theorem ssl_take11 {w : World} {g cap k : Nat} {L : List ByteArray} (h : SSl w (.slice (some ⟨g, 0, none⟩) L.length cap) L) (hk : k ≤ L.length) : SSl w (.slice (some ⟨g, 0, none⟩) (L.take k).length cap) (L.take k) := by
  have hl : (L.take k).length = k := by rw [List.length_take]; omega
  have hc : L.length ≤ cap := by
    obtain ⟨⟨a, c, e, hn, _⟩, _, _⟩ := h
    injection e with _ _ e3
    rw [e3]
    exact hn.1
  refine ⟨⟨_, _, rfl, ⟨by omega, fun e => by cases e⟩, ?_⟩, by rw [hl]; have := h.max; omega, fun s hs => h.size s (List.mem_of_mem_take hs)⟩
  refine .inr ⟨g, 0, rfl, fun j s hj => ?_⟩
  rw [Nat.zero_add]
  have hjl := (List.getElem?_eq_some_iff.1 hj).1
  rw [List.getElem?_take_of_lt (by omega)] at hj
  exact ssl_cel11 h hj
theorem ssl_drop11 {w : World} {g cap k : Nat} {L : List ByteArray} (h : SSl w (.slice (some ⟨g, 0, none⟩) L.length cap) L) (hk : k ≤ L.length) : SSl w (.slice (some ⟨g, k, none⟩) (L.drop k).length (cap - k)) (L.drop k) := by
  have hl : (L.drop k).length = L.length - k := List.length_drop
  have hc : L.length ≤ cap := by
    obtain ⟨⟨a, c, e, hn, _⟩, _, _⟩ := h
    injection e with _ _ e3
    rw [e3]
    exact hn.1
  refine ⟨⟨_, _, rfl, ⟨by omega, fun e => by cases e⟩, ?_⟩, by rw [hl]; have := h.max; omega, fun s hs => h.size s (List.mem_of_mem_drop hs)⟩
  refine .inr ⟨g, k, rfl, fun j s hj => ?_⟩
  rw [List.getElem?_drop] at hj
  exact ssl_cel11 h hj
theorem gst_map (M : List ByteArray) : gst M = gfl (M.map fun s => #[Value.string s]) := rfl
theorem Fdw.cat {w wx : World} {a0 : Option Addr} {n0 c0 : Nat} {L M : List ByteArray} {ad : Option Addr} {c : Nat} (h : Fdw w (.slice a0 n0 c0) L wx) (hM : SSl wx (.slice ad M.length c) M) (hn : L.length + M.length ≤ 100000) {ops : Array Oper} {rest : List Oper} {o : Oper} {ac : Act} {Q : Exit → Act → World → Prop} {s y : Operand} (h1 : o.guard = none) (h2 : o.op = .call { callee := .builtin .append, args := #[s, y], argTypes := #[23, 23] }) (h3 : ac.eval s = .slice a0 n0 c0) (h4 : ac.eval y = .slice ad M.length c)
    (h5 : ∀ a9 n9 c9 w', Hid (Fdw w (.slice a9 n9 c9) (L ++ M) w') → wpList Tryz.prog ops Q rest (ac.put o.dst (.slice a9 n9 c9)) w') : wpList Tryz.prog ops Q (o :: rest) ac wx := by
  have hsz := hM.size
  obtain ⟨⟨a', c', e', hc0, hc⟩, _, _⟩ := hM
  injection e' with e1 _ e3
  subst e1
  subst e3
  have hown : wx.ownsRow w.heap.size 9 1 (.slice a0 n0 c0) (L.map fun s => #[Value.string s]).length (gfl (L.map fun s => #[Value.string s])) := by rw [List.length_map]; exact h.r.o
  refine append_gs infoS3 Tryz.underlying23 rfl (by decide) (by decide) h1 h2 (M := M.map fun s => #[Value.string s]) h3 hown (by rw [List.length_map]; exact h4) (fun d hd => ?_) (fun u hu => ?_) (by rw [List.length_map, List.length_map]; omega) hc0.2 ?_ h.b.size (fun v' w' h6 h7 => ?_)
  · obtain ⟨_, _, rfl⟩ := List.mem_map.1 hd
    rfl
  · obtain ⟨d, hd, hu3⟩ := List.mem_flatMap.1 hu
    obtain ⟨x, _, rfl⟩ := List.mem_map.1 hd
    simp only [List.mem_cons, List.not_mem_nil, or_false] at hu3
    rw [hu3]
    rfl
  · rcases hc with e | ⟨b, off, e, hc⟩
    · exact .inl (by rw [e]; rfl)
    · refine .inr ⟨b, off, e, fun i d hd j u hu => ?_⟩
      rw [List.getElem?_map] at hd
      obtain ⟨x, hx, rfl⟩ := Option.map_eq_some_iff.1 hd
      rcases j with _ | j
      · have e2 : Value.string x = u := by simpa using hu
        rw [← e2, Nat.mul_one, Nat.add_zero]
        exact hc i x hx
      · simp at hu
  · rw [List.length_map, List.length_map, ← List.map_append] at h6
    obtain ⟨a9, c9, hv9, _⟩ := own_formG h6
    subst hv9
    refine h5 _ _ _ w' ⟨⟨?_, fun q e => .inr ((h6.lt q e).1), fun z hz => ?_⟩, h.b.trans ((kp_grown h7).below h.b.size (fun q e => ?_))⟩
    · rw [gst_map, List.length_append]
      exact h6
    · rcases List.mem_append.1 hz with hz | hz
      · exact h.r.s z hz
      · exact hsz z hz
    · rcases h.r.p q e with e | e <;> omega
theorem Fdw.nil {w wx : World} (hb : Below w.heap.size w wx) : Fdw w (.slice none 0 0) [] wx := ⟨Srw.nil _ _ _, hb⟩
set_option maxRecDepth 1000000 in
set_option maxHeartbeats 4000000 in
theorem rnames11_any (w : World) (v : Value) (l : List Tp) (hv : TSl w v l) (hl : l.length ≤ 80) : Calls Tryz.prog 27 #[v] w fun e w' => ∃ a n c, e = .returned (.slice a n c) ∧ Hid (SSl w' (.slice a n c) (rnm l) ∧ Below w.heap.size w w' ∧ Fdw w (.slice a n c) (rnm l) w') := by
  have HV := hide hv
  obtain ⟨⟨av, cv, rfl, _, _⟩, _⟩ := hv
  go_enter Tryz.func27, Tryz.ntmps27
  go_wp2_with fail
  refine (builtIn11_own w).mono ?_
  rintro e w1 ⟨a1, n1, c1, rfl, hP⟩
  have HW1 : Hid (Fdw w (.slice a1 n1 c1) (rnm (l.take 0)) w1 ∧ (rnm (l.take 0)).length = 9 + 0) := ⟨⟨hP.out.1, hP.out.2⟩, rfl⟩
  clear hP
  go_wp2_with fail
  go_loopw [3, 4] (fun vk vn wx => ∃ (i : Nat) (a0 : Option Addr) (n0 c0 : Nat), i ≤ l.length ∧ vk = .slice a0 n0 c0 ∧ vn = .int .i64 (i : Nat) ∧ Hid (Fdw w (.slice a0 n0 c0) (rnm (l.take i)) wx ∧ (rnm (l.take i)).length = 9 + i)) (fun _ vn _ => l.length - (intOf vn).toNat)
  case atStart => exact ⟨0, _, _, _, by omega, rfl, rfl, HW1⟩
  case round =>
    obtain ⟨i, a0, n0, c0, hi, rfl, rfl, HP⟩ := hrel
    clear HW1
    by_cases hlt : i < l.length
    · have g1 : (i : Int) < (l.length : Int) := by omega
      obtain ⟨t, ht⟩ : ∃ t, l[i]? = some t := ⟨l[i], List.getElem?_eq_getElem hlt⟩
      obtain ⟨b, off, c, e2, h1, h2, h3, h4⟩ := tsl_at HV.out ht
      subst e2
      have HST := hide (rnm_step l i t ht)
      have HTS := hide h4
      have HCN : Hid (∀ wy, Below w.heap.size w wy → wy.cell? ⟨b, off + i * 9, none⟩ = some (.string t.n)) := fun wy hy => keep_below hy _ _ h3
      obtain ⟨L, hL⟩ : ∃ L, L = rnm (l.take i) := ⟨_, rfl⟩
      rw [← hL] at HP HST
      clear hL h1 h2 h3 h4 ht
      have hln : L.length = 9 + i := HP.out.2
      have HF0 := hide HP.out.1
      obtain ⟨a9, c9, e5, hg⟩ := own_formG HP.out.1.r.o
      obtain ⟨g, hg2⟩ := hg (by omega)
      injection e5 with e6 e7 e8
      subst e6
      subst hg2
      subst e7
      subst e8
      have hLm : L.length ≤ 1000 := by omega
      have HS0 : Hid (SSl wr (.slice (some ⟨g, 0, none⟩) L.length c0) L) := HP.out.1.r.ssl (by omega)
      have hcap : L.length ≤ c0 := by
        obtain ⟨⟨_, _, e, hn, _⟩, _, _⟩ := HS0.out
        injection e with _ _ e3
        rw [e3]
        exact hn.1
      have HLN := hide hln
      clear HP hln
      go_wp2_with fail
      have HB00 : Hid (Below wr.heap.size wr wr) := Below.refl _ _
      have HL00 : Hid (∀ j x, j < 0 → L[j]? = some x → lt11 t.n x = true) := fun j x hj => absurd hj (by omega)
      go_loopw [5] (fun va wx => ∃ at' : Nat, at' ≤ L.length ∧ va = .int .i64 (at' : Nat) ∧ Hid (∀ j x, j < at' → L[j]? = some x → lt11 t.n x = true) ∧ Hid (Below wr.heap.size wr wx)) (fun va _ => L.length - (intOf va).toNat)
      case atStart => exact ⟨0, by omega, rfl, HL00, HB00⟩
      case round =>
        rename World => X1
        obtain ⟨at', hat, rfl, HLT, HBx⟩ := hrel
        clear HL00 HB00
        obtain ⟨cb, hcb⟩ : ∃ cb : Bool, cb = (match L[at']? with | some x => lt11 t.n x | none => false) := ⟨_, rfl⟩
        have HCB := hide hcb
        clear hcb
        go_upto_region 6 with fail
        go_cut [29] from 14 to 31 (fun v wx => v = .bool cb ∧ Hid (Below wr.heap.size wr wx))
        case first =>
          as_aux_lemma =>
          by_cases hl2 : at' < L.length
          · have g3 : (at' : Int) < (L.length : Int) := by omega
            obtain ⟨x, hx⟩ : ∃ x, L[at']? = some x := ⟨L[at'], List.getElem?_eq_getElem hl2⟩
            have HE : Hid (Op.bytesLess x.toList t.n.toList = cb) := by
              show _ = _
              rw [HCB.out, hx]
              exact less11 x t.n
            have he := HE.out
            have x1 : ∀ t' : Ext X1, t'.w'.cell? ⟨g, at', none⟩ = some (.string x) := fun t' => keep_below t'.h _ _ (keep_below HBx.out _ _ (ssl_cel11 HS0.out hx))
            have x2 : ∀ t' : Ext X1, t'.w'.cell? ⟨b, off + i * 9, none⟩ = some (.string t.n) := fun t' => keep_below t'.h _ _ (keep_below HBx.out _ _ (HCN.out _ HF0.out.b))
            clear hx
            go_wp2_with fail
            refine region_ext (by kernel_rfl) (by kernel_rfl) ?_
            with_reducible refine wpQuiet_step (fun K hK => ?_)
            go_simp
            with_reducible refine hK _ ?_
            clear hK K
            with_reducible refine wpQuiet_step (fun K hK => ?_)
            go_simp
            with_reducible refine hK _ ?_
            clear hK K
            with_reducible refine wpQuiet_step (fun K hK => ?_)
            go_simp
            with_reducible refine hK _ ?_
            clear hK K
            with_reducible refine wpQuiet_step (fun K hK => ?_)
            go_simp
            with_reducible refine hK _ ?_
            clear hK K
            with_reducible refine wpQuiet_step (fun K hK => ?_)
            go_simp
            with_reducible refine hK _ ?_
            clear hK K
            with_reducible refine wpQuiet_step (fun K hK => ?_)
            go_simp
            with_reducible refine hK _ ?_
            clear hK K
            with_reducible refine wpQuiet_step (fun K hK => ?_)
            go_simp
            with_reducible refine hK _ ?_
            clear hK K
            with_reducible refine wpQuiet_step (fun K hK => ?_)
            go_simp
            with_reducible refine hK _ ?_
            clear hK K
            with_reducible refine wpQuiet_step (fun K hK => ?_)
            go_simp
            with_reducible refine hK _ ?_
            clear hK K
            with_reducible refine wpQuiet_step (fun K hK => ?_)
            go_simp
            with_reducible refine hK _ ?_
            clear hK K
            with_reducible refine wpQuiet_step (fun K hK => ?_)
            go_simp
            with_reducible refine hK _ ?_
            clear hK K
            with_reducible refine wpQuiet_step (fun K hK => ?_)
            go_simp
            with_reducible refine hK _ ?_
            clear hK K
            with_reducible refine wpQuiet_step (fun K hK => ?_)
            go_simp
            with_reducible refine hK _ ?_
            clear hK K
            with_reducible refine wpQuiet_step (fun K hK => ?_)
            go_simp
            with_reducible refine hK _ ?_
            clear hK K
            with_reducible refine wpQuiet_step (fun K hK => ?_)
            go_simp
            with_reducible refine hK _ ?_
            clear hK K
            with_reducible refine wpQuiet_step (fun K hK => ?_)
            go_simp
            with_reducible refine hK _ ?_
            clear hK K
            refine wpQuiet_nil ?_
            rintro wx ⟨t2, rfl⟩
            have HB2 : Hid (Below wr.heap.size wr t2.w') := HBx.out.trans (t2.h.mono HBx.out.size)
            go_wp2_with fail
            go_meet
            case rel => exact ⟨rfl, HB2⟩
          · have g3 : ¬ (at' : Int) < (L.length : Int) := by omega
            have hf : cb = false := by rw [HCB.out, List.getElem?_eq_none (by omega)]
            subst hf
            go_wp2_with fail
            refine region_ext (by kernel_rfl) (by kernel_rfl) ?_
            with_reducible refine wpQuiet_step (fun K hK => ?_)
            go_simp
            with_reducible refine hK _ ?_
            clear hK K
            with_reducible refine wpQuiet_step (fun K hK => ?_)
            go_simp
            with_reducible refine hK _ ?_
            clear hK K
            with_reducible refine wpQuiet_step (fun K hK => ?_)
            go_simp
            with_reducible refine hK _ ?_
            clear hK K
            with_reducible refine wpQuiet_step (fun K hK => ?_)
            go_simp
            with_reducible refine hK _ ?_
            clear hK K
            with_reducible refine wpQuiet_step (fun K hK => ?_)
            go_simp
            with_reducible refine hK _ ?_
            clear hK K
            with_reducible refine wpQuiet_step (fun K hK => ?_)
            go_simp
            with_reducible refine hK _ ?_
            clear hK K
            with_reducible refine wpQuiet_step (fun K hK => ?_)
            go_simp
            with_reducible refine hK _ ?_
            clear hK K
            with_reducible refine wpQuiet_step (fun K hK => ?_)
            go_simp
            with_reducible refine hK _ ?_
            clear hK K
            with_reducible refine wpQuiet_step (fun K hK => ?_)
            go_simp
            with_reducible refine hK _ ?_
            clear hK K
            with_reducible refine wpQuiet_step (fun K hK => ?_)
            go_simp
            with_reducible refine hK _ ?_
            clear hK K
            with_reducible refine wpQuiet_step (fun K hK => ?_)
            go_simp
            with_reducible refine hK _ ?_
            clear hK K
            with_reducible refine wpQuiet_step (fun K hK => ?_)
            go_simp
            with_reducible refine hK _ ?_
            clear hK K
            with_reducible refine wpQuiet_step (fun K hK => ?_)
            go_simp
            with_reducible refine hK _ ?_
            clear hK K
            with_reducible refine wpQuiet_step (fun K hK => ?_)
            go_simp
            with_reducible refine hK _ ?_
            clear hK K
            with_reducible refine wpQuiet_step (fun K hK => ?_)
            go_simp
            with_reducible refine hK _ ?_
            clear hK K
            with_reducible refine wpQuiet_step (fun K hK => ?_)
            go_simp
            with_reducible refine hK _ ?_
            clear hK K
            refine wpQuiet_nil ?_
            rintro wx ⟨t2, rfl⟩
            have HB2 : Hid (Below wr.heap.size wr t2.w') := HBx.out.trans (t2.h.mono HBx.out.size)
            go_wp2_with fail
            go_meet
            case rel => exact ⟨rfl, HB2⟩
        obtain ⟨rfl, HB2⟩ := hcut
        rename World => X2
        clear HBx
        cases cb with
        | true =>
          obtain ⟨x, hx, hlx⟩ : ∃ x, L[at']? = some x ∧ lt11 t.n x = true := by
            have h := HCB.out
            cases hx : L[at']? with
            | none => rw [hx] at h; cases h
            | some x => rw [hx] at h; exact ⟨x, rfl, h.symm⟩
          have hl2 : at' < L.length := (List.getElem?_eq_some_iff.1 hx).1
          have HL2 : Hid (∀ j x, j < at' + 1 → L[j]? = some x → lt11 t.n x = true) := fun j y hj hy => by
            by_cases e : j = at'
            · subst e
              rw [hx] at hy
              rw [← Option.some.inj hy]
              exact hlx
            · exact HLT.out j y (by omega) hy
          clear hx hlx HLT HCB
          go_wp2_with fail
          go_roundw
          case rel => (repeat (first | exact ⟨⟨at' + 1, by omega, by go_num, HL2, HB2⟩, rfl⟩ | exact ⟨at' + 1, by omega, by go_num, HL2, HB2⟩ | apply Exists.intro))
          case measure => simp [intOf]; omega
        | false =>
          have HTW := hide (take_while11 (p := lt11 t.n) L at' HLT.out (fun x hx => by have h := HCB.out; rw [hx] at h; exact h.symm) hat)
          have HTL : Hid ((L.take at').length = at') := by show _ = _; rw [List.length_take]; omega
          have HDL : Hid ((L.drop at').length = L.length - at') := List.length_drop
          have HW2 : Hid (Below w.heap.size w X2) := HF0.out.b.trans (HB2.out.mono HF0.out.b.size)
          have HFN : Hid (Fdw X2 (.slice none 0 0) [] X2) := Fdw.nil (Below.refl _ _)
          have HS2 : Hid (SSl X2 (.slice (some ⟨g, 0, none⟩) L.length c0) L) := HS0.out.move (keep_below HB2.out)
          have HT9 := hide (ssl_take11 HS2.out hat)
          have HLA : Hid (([] : List ByteArray).length + (L.take at').length ≤ 100000) := by have := HTL.out; show _ ≤ _; rw [this, List.length_nil]; omega
          have gc : (at' : Int) ≤ (c0 : Int) := by omega
          clear HLT HCB
          go_upto_region 10 with (refine Fdw.cat (M := L.take at') (ad := some ⟨g, 0, none⟩) (c := c0) HFN.out HT9.out HLA.out rfl rfl rfl (by rw [HTL.out]; rfl) ?_; intro a9 n9 c9 w9 HP9)
          have HW9 : Hid (Below w.heap.size w w9) := HW2.out.trans (HP9.out.b.mono HW2.out.size)
          have q10 := HCN.out _ HW9.out
          have HLB : Hid (([] ++ L.take at').length ≤ 100000) := by have := HTL.out; show _ ≤ _; rw [List.nil_append, this]; omega
          clear HFN HT9 HLA
          go_upto_region 11 with (refine Fdw.law HP9.out HTS.out HLB.out rfl rfl rfl rfl ?_; intro a8 n8 c8 w8 HP8)
          clear q10 HP9 HLB HW9
          have HS8 : Hid (SSl w8 (.slice (some ⟨g, 0, none⟩) L.length c0) L) := HS2.out.move (keep_below HP8.out.b)
          have HLC : Hid ((([] ++ L.take at') ++ [t.n]).length + (L.drop at').length ≤ 100000) := by
            have h1 := HTL.out
            have h2 := HDL.out
            show _ ≤ _
            rw [List.length_append, List.nil_append, h1, h2, List.length_singleton]
            omega
          have HFE : Hid (∀ (a7 : Option Addr) (n7 c7 : Nat) (w7 : World), Fdw X2 (.slice a7 n7 c7) (([] ++ L.take at') ++ [t.n] ++ L.drop at') w7 → Fdw w (.slice a7 n7 c7) (rnm (l.take (i + 1))) w7 ∧ (rnm (l.take (i + 1))).length = 9 + (i + 1)) := fun a7 n7 c7 w7 h => by
            have e : ([] ++ L.take at') ++ [t.n] ++ L.drop at' = rnm (l.take (i + 1)) := by
              rw [HST.out, HTW.out.1, HTW.out.2, List.nil_append, List.append_assoc]
              rfl
            rw [e] at h
            have hz := HW2.out.size
            refine ⟨⟨⟨own_mono h.r.o hz, fun q e => .inr (by rcases h.r.p q e with e | e <;> omega), h.r.s⟩, HW2.out.trans (h.b.mono hz)⟩, ?_⟩
            rw [HST.out, rins_len, HLN.out]
            omega
          clear HST HTW HLN
          by_cases hc : at' = c0
          · have HD : Hid (L.drop at' = []) := List.drop_eq_nil_of_le (by omega)
            have HM : Hid (SSl w8 (.slice (some ⟨g, 0, none⟩) ([] : List ByteArray).length 0) []) := ⟨⟨_, _, rfl, ⟨Nat.zero_le _, fun e => by cases e⟩, .inl rfl⟩, by decide, fun _ h => by cases h⟩
            have HLD : Hid ((([] ++ L.take at') ++ [t.n]).length + ([] : List ByteArray).length ≤ 100000) := by
              have h := HLC.out
              rw [HD.out] at h
              exact h
            have hci : (at' : Int) = (c0 : Int) := by omega
            go_wp2_with (refine Fdw.cat (M := []) (ad := some ⟨g, 0, none⟩) (c := 0) HP8.out HM.out HLD.out rfl rfl rfl rfl ?_; intro a7 n7 c7 w7 HP7)
            have HP6 := hide (HFE.out _ _ _ _ (by rw [HD.out]; exact HP7.out))
            clear HP7 HFE
            go_roundw
            case rel => (repeat (first | exact ⟨⟨i + 1, _, _, _, by omega, rfl, by go_num, HP6⟩, rfl⟩ | exact ⟨i + 1, _, _, _, by omega, rfl, by go_num, HP6⟩ | apply Exists.intro))
            case measure => simp [intOf]; omega
          · have HM := hide (ssl_drop11 HS8.out hat)
            have hci : ¬ (at' : Int) = (c0 : Int) := by omega
            go_wp2_with (refine Fdw.cat (M := L.drop at') (ad := some ⟨g, at', none⟩) (c := c0 - at') HP8.out HM.out HLC.out rfl rfl rfl (by rw [HDL.out]; rfl) ?_; intro a7 n7 c7 w7 HP7)
            have HP6 := hide (HFE.out _ _ _ _ HP7.out)
            clear HP7 HFE
            go_roundw
            case rel => (repeat (first | exact ⟨⟨i + 1, _, _, _, by omega, rfl, by go_num, HP6⟩, rfl⟩ | exact ⟨i + 1, _, _, _, by omega, rfl, by go_num, HP6⟩ | apply Exists.intro))
            case measure => simp [intOf]; omega
    have g1 : ¬ (i : Int) < (l.length : Int) := by omega
    have HP2 : Hid (SSl wr (.slice a0 n0 c0) (rnm l) ∧ Below w.heap.size w wr ∧ Fdw w (.slice a0 n0 c0) (rnm l) wr) := by
      have h := HP.out
      rw [List.take_of_length_le (show l.length ≤ i by omega)] at h
      exact ⟨h.1.r.ssl (by have := h.2; omega), h.1.b, h.1⟩
    clear HP
    go_wp2_with fail
    go_ret
    exact ⟨_, _, _, rfl, HP2.out⟩
end
section
open Go.RowKit Go
theorem sv_enc (L : List ByteArray) : sv L = (L.map bl11).map encStr := by
  unfold sv
  rw [List.map_map]
  refine List.map_congr_left (fun s _ => ?_)
  show Value.string s = encStr (bl11 s)
  unfold encStr
  rw [bl_back]
theorem srn_sv (l : List Tp) : (srn l).map encStr = sv (nms l) := by
  unfold nms sv
  rw [List.map_map]
  rfl
theorem nml_eq (l : List Tp) : (owns.map (·.1) ++ l.map (·.n)).map bl11 = nml l := by
  unfold nml
  rw [List.map_append, List.map_map, List.map_map]
  rfl
theorem owns_sz : ∀ s ∈ owns.map (·.1), s.size ≤ 140737488351232 := fun s hs => by
  have h : (owns.map (·.1)).all (fun s => decide (s.size ≤ 140737488351232)) = true := by decide
  exact of_decide_eq_true (List.all_eq_true.1 h s hs)
theorem sort_own {w : World} {B g cap : Nat} {L : List ByteArray} (ho : w.ownsRow B 9 1 (.slice (some ⟨g, 0, none⟩) L.length cap) L.length (sv L)) (hl : L.length ≤ 1000) : Calls Tryz.prog 62 #[.slice (some ⟨g, 0, none⟩) L.length cap] w fun e w' => e = .returned (.tuple #[]) ∧ w'.ownsRow B 9 1 (.slice (some ⟨g, 0, none⟩) L.length cap) L.length (((L.map bl11).mergeSort fun x y => decide (x ≤ y)).map encStr) ∧ w.grownBy w' (some g) := by
  rcases id ho.2 with ⟨hv, _⟩ | ⟨g', cap', cur, hv, hb, hg, h1, h2, h3, h4⟩
  · cases hv
  injection hv with e1 _ e3
  injection e1 with e1
  injection e1 with e1 _ _
  subst e1
  subst e3
  have hlen : (L.map bl11).length = L.length := List.length_map ..
  have hH : Sort.Holds encStr w g 0 (L.map bl11).toArray := holds_of_block hg (by rw [hlen, ← sv_enc]; rw [Nat.mul_one] at h4; exact h4)
  have h := Any.slices_Sort_string Tryz.laysSrt g 0 cap (L.map bl11) w hH (blk_lt hg) (by rw [hlen]; omega)
  rw [hlen] at h
  refine h.mono ?_
  rintro e w' ⟨rfl, n, os, rfl⟩
  refine ⟨rfl, ?_, grownBy_sorted _⟩
  have := ownsRow_sorted (w := w) (n := n) (os := os) (ss := L.map bl11) (ts := (L.map bl11).mergeSort fun x y => decide (x ≤ y)) (by simp) hb hg (by rw [hlen]; exact h1) h2 h3
  rw [hlen] at this
  exact this
set_option maxRecDepth 1000000 in
set_option maxHeartbeats 2000000 in
theorem tst_nameso {w : World} {N top g : Nat} {l : List Tp} (h : Tst w N top g l) (hO : Otb w) (h64 : l.length ≤ 64) (hsz : ∀ t ∈ l, t.n.size ≤ 140737488351232) : Calls Tryz.prog 26 #[.pointer (some ⟨g, 0, none⟩)] w fun e w' => ∃ gb c2, e = .returned (.slice (some ⟨gb, 0, none⟩) (nms l).length c2) ∧ Hid (SSl w' (.slice (some ⟨gb, 0, none⟩) (nms l).length c2) (nms l) ∧ Below w.heap.size w w' ∧ w.heap.size ≤ gb ∧ gb < w'.heap.size ∧ w'.ownsRow w.heap.size 9 1 (.slice (some ⟨gb, 0, none⟩) (nms l).length c2) (nms l).length (sv (nms l))) := by
  have HT := hide hO.c
  have HI := hide infoOw
  have HA : Hid (∀ w, (isAgg 125).run Tryz.prog w = .ok true w) := aggOw
  have HIT := hide infoTp
  have HAT : Hid (∀ w, (isAgg 69).run Tryz.prog w = .ok true w) := aggTp
  have HSZ := hide hsz
  obtain ⟨d, m, hTb⟩ := h.tbl
  obtain ⟨vt, B, hg, hB, _⟩ := hTb.e
  have HTS := hide hB.t
  obtain ⟨⟨⟨a, cap, rfl, _, hform⟩, _⟩, _⟩ := hB
  have HF := hide hform
  have HG := hide hg
  have HOS := hide owns_sz
  have HOL : Hid ((owns.map (·.1)).length = 9) := rfl
  clear hO hTb hg h hsz hform
  go_enter Tryz.func26, Tryz.ntmps26
  go_wp2_with (refine wpList_aggAt rfl rfl HI.out HA.out 0 0 ocs rfl rfl HT.out ?_)
  clear HT HI HA
  generalize hoc : ocs = OC at *
  have HOE := hide hoc
  clear hoc
  generalize hon : owns.map (·.1) = ON at *
  have HON := hide hon
  clear hon
  go_loopw [3, 9] (fun vo vi wx => ∃ (i : Nat) (a0 : Option Addr) (n0 c0 : Nat), i ≤ 9 ∧ vo = .slice a0 n0 c0 ∧ vi = .int .i64 (i : Nat) ∧ Hid (wx.ownsRow w.heap.size 9 1 (.slice a0 n0 c0) i (sv (ON.take i))) ∧ Hid (Below w.heap.size w wx)) (fun _ vi _ => 9 - (intOf vi).toNat)
  case atStart => exact ⟨0, none, 0, 0, by omega, rfl, rfl, World.ownsRow_nil _ _ _ _, Below.refl _ _⟩
  case round =>
    obtain ⟨i, a0, n0, c0, hi, rfl, rfl, HO, HBw⟩ := hrel
    by_cases hlt : i < 9
    · as_aux_lemma =>
      have g1 : (i : Int) < 9 := by omega
      obtain ⟨⟨n, k⟩, hp⟩ : ∃ p, owns[i]? = some p := ⟨owns[i]'(by have := owns_len; omega), List.getElem?_eq_getElem _⟩
      have hpo : ON[i]? = some n := by rw [← HON.out, List.getElem?_map, hp]; rfl
      have HTK : Hid (ON.take (i + 1) = ON.take i ++ [n]) := by
        obtain ⟨hl, he⟩ := List.getElem?_eq_some_iff.1 hpo
        show _ = _
        rw [List.take_succ_eq_append_getElem hl, he]
      have HNS : Hid (n.size ≤ 140737488351232) := HOS.out n (List.mem_of_getElem? hpo)
      have HEX : Hid (∀ (o : Oper) (a : Act) (x ix : Operand) (w : World), o.op = .index 125 x ix → a.eval x = .agg OC → a.eval ix = .int .i64 (i : Nat) → (execOp a.eval o).run Tryz.prog w = .ok (.value (.agg #[.string n, .int .i64 (k : Nat)])) w) := fun o a x ix w h1 h2 h3 => exec_own hp h1 (h2.trans (by rw [HOE.out])) h3
      have HBS := hide HBw.out.size
      have HOA := hide (HO.out.alloc (.cells #[.string n, .int .i64 (k : Nat)] 124))
      have HBA : Hid (Below w.heap.size w (wr.alloc (.cells #[.string n, .int .i64 (k : Nat)] 124))) := HBw.out.alloc HBS.out _
      have HSL : Hid (SSl ((wr.alloc (.cells #[.string n, .int .i64 (k : Nat)] 124)).alloc (.cells #[.string n] 9)) (.slice (some ⟨wr.heap.size + 1, 0, none⟩) 1 1) [n]) := by
        have h := one_ssl (wr.alloc (.cells #[.string n, .int .i64 (k : Nat)] 124)) n HNS.out
        have e : (wr.alloc (.cells #[.string n, .int .i64 (k : Nat)] 124)).heap.size = wr.heap.size + 1 := by simp
        rw [e] at h
        exact h
      clear hp hpo HO HBw
      go_wp2_with (first
        | (refine wpList_ex rfl (HEX.out _ _ _ _ _ rfl rfl rfl) ?_)
        | (at_builtin; refine append_ssl rfl _ _ rfl w.heap.size _ i (ON.take i) rfl (HOA.out.alloc _) _ [n] rfl HSL.out ?b1 ?b2 ?_))
      case b1 => simp; omega
      case b2 => have := HBA.out.size; simp at this ⊢; omega
      intro v2 w2 hown2 hgr2
      have hbel2 : Below w.heap.size w w2 := (HBA.out.alloc HBA.out.size _).grown hgr2 (by have := HBA.out.size; simp at this ⊢; omega) (fun q hq => (HOA.out.lt q hq).1)
      have HO2 : Hid (w2.ownsRow w.heap.size 9 1 v2 (i + 1) (sv (ON.take (i + 1)))) := by show World.ownsRow _ _ _ _ _ _ _; rw [HTK.out]; exact hown2
      have HB2 := hide hbel2
      clear hgr2 hown2 hbel2 HOA HBA HEX
      obtain ⟨a2, n2, c2, rfl⟩ : ∃ a n c, v2 = .slice a n c := by obtain ⟨a, c, h, _⟩ := own_formG HO2.out; exact ⟨a, _, c, h⟩
      go_wp2_with fail
      go_roundw
      case rel => exact ⟨i + 1, _, _, _, by omega, rfl, by go_num, HO2, HB2⟩
      case measure => simp [intOf]; omega
    · have g1 : ¬ (i : Int) < 9 := by omega
      have hi9 : i = 9 := by omega
      have HO9 : Hid (wr.ownsRow w.heap.size 9 1 (.slice a0 n0 c0) (9 + 0) (sv (ON ++ (l.take 0).map (·.n)))) := by
        have h := HO.out
        rw [hi9, List.take_of_length_le (by rw [HOL.out]; exact Nat.le_refl _)] at h
        show World.ownsRow _ _ _ _ _ _ _
        simpa using h
      have q0 : wr.cell? ⟨g, 0, none⟩ = some (.slice a l.length cap) := keep_below HBw.out _ _ (blk_cell (j := 0) HG.out rfl)
      have HB9 := HBw
      clear HO hi9 HBw HOE HG
      go_wp2_with fail
      clear q0
      go_loopw [3, 24] (fun vo vi wx => ∃ (j : Nat) (a0 : Option Addr) (n0 c0 : Nat), j ≤ l.length ∧ vo = .slice a0 n0 c0 ∧ vi = .int .i64 (j : Nat) ∧ Hid (wx.ownsRow w.heap.size 9 1 (.slice a0 n0 c0) (9 + j) (sv (ON ++ (l.take j).map (·.n)))) ∧ Hid (Below w.heap.size w wx)) (fun _ vi _ => l.length - (intOf vi).toNat)
      case atStart => exact ⟨0, _, _, _, by omega, rfl, rfl, HO9, HB9⟩
      case round =>
        rename World => wz
        obtain ⟨j, a1, n1, c1, hj, rfl, rfl, HO, HBw⟩ := hrel
        clear HO9 HB9
        by_cases hjl : j < l.length
        · as_aux_lemma =>
          have g2 : (j : Int) < (l.length : Int) := by omega
          obtain ⟨t, ht⟩ : ∃ t, l[j]? = some t := ⟨l[j], List.getElem?_eq_getElem hjl⟩
          obtain ⟨b, off, rfl, hcc⟩ := HF.out.resolve_left (fun h => by rw [h] at hjl; simp at hjl)
          obtain ⟨c, hc, hcell⟩ := hcc j t ht
          obtain ⟨⟨vf, vc, vw, rfl, ⟨⟨af, cf, rfl, -, -⟩, -⟩, ⟨⟨ac, cc, rfl, -, -⟩, -⟩, ⟨⟨aw, cw, rfl, -, -⟩, -, -⟩⟩, -⟩ := hc
          unfold tpc at hcell
          have HCL : Hid (∀ i u, (#[.string t.n, .int .i64 t.k, .int .i64 t.lo, .int .i64 t.hi, .string t.r.n, .bool t.r.z, .slice af t.fs.length cf, .slice ac t.cs.length cc, .slice aw t.ws.length cw] : Array Value)[i]? = some u → wz.cell? ⟨b, off + j * 9 + i, none⟩ = some u) := fun i u hi => keep_below HBw.out _ _ (hcell i u hi)
          have HTK : Hid (ON ++ (l.take (j + 1)).map (·.n) = (ON ++ (l.take j).map (·.n)) ++ [t.n]) := by
            show _ = _
            rw [takeP l j t ht, List.map_append, List.append_assoc]
            rfl
          have HNS : Hid (t.n.size ≤ 140737488351232) := HSZ.out t (List.mem_of_getElem? ht)
          have HBS := hide HBw.out.size
          have HOA := hide (HO.out.alloc (.cells #[.string t.n, .int .i64 t.k, .int .i64 t.lo, .int .i64 t.hi, .string t.r.n, .bool t.r.z, .slice af t.fs.length cf, .slice ac t.cs.length cc, .slice aw t.ws.length cw] 69))
          have HBA : Hid (Below w.heap.size w (wz.alloc (.cells #[.string t.n, .int .i64 t.k, .int .i64 t.lo, .int .i64 t.hi, .string t.r.n, .bool t.r.z, .slice af t.fs.length cf, .slice ac t.cs.length cc, .slice aw t.ws.length cw] 69))) := HBw.out.alloc HBS.out _
          have HSL : Hid (SSl ((wz.alloc (.cells #[.string t.n, .int .i64 t.k, .int .i64 t.lo, .int .i64 t.hi, .string t.r.n, .bool t.r.z, .slice af t.fs.length cf, .slice ac t.cs.length cc, .slice aw t.ws.length cw] 69)).alloc (.cells #[.string t.n] 9)) (.slice (some ⟨wz.heap.size + 1, 0, none⟩) 1 1) [t.n]) := by
            have h := one_ssl (wz.alloc (.cells #[.string t.n, .int .i64 t.k, .int .i64 t.lo, .int .i64 t.hi, .string t.r.n, .bool t.r.z, .slice af t.fs.length cf, .slice ac t.cs.length cc, .slice aw t.ws.length cw] 69)) t.n HNS.out
            have e : (wz.alloc (.cells #[.string t.n, .int .i64 t.k, .int .i64 t.lo, .int .i64 t.hi, .string t.r.n, .bool t.r.z, .slice af t.fs.length cf, .slice ac t.cs.length cc, .slice aw t.ws.length cw] 69)).heap.size = wz.heap.size + 1 := by simp
            rw [e] at h
            exact h
          clear hcc hcell ht HO HBw HF HTS
          go_wp2_with (first
            | (refine wpList_aggAt rfl rfl HIT.out HAT.out b (off + j * 9) #[.string t.n, .int .i64 t.k, .int .i64 t.lo, .int .i64 t.hi, .string t.r.n, .bool t.r.z, .slice af t.fs.length cf, .slice ac t.cs.length cc, .slice aw t.ws.length cw] rfl rfl HCL.out ?_)
            | (at_builtin; refine append_ssl rfl _ _ rfl w.heap.size _ (9 + j) (ON ++ (l.take j).map (·.n)) rfl (HOA.out.alloc _) _ [t.n] rfl HSL.out ?b1 ?b2 ?_))
          case b1 => show 9 + j + 1 < _; omega
          case b2 => have := HBA.out.size; simp at this ⊢; omega
          intro v2 w2 hown2 hgr2
          have hbel2 : Below w.heap.size w w2 := (HBA.out.alloc HBA.out.size _).grown hgr2 (by have := HBA.out.size; simp at this ⊢; omega) (fun q hq => (HOA.out.lt q hq).1)
          have HO2 : Hid (w2.ownsRow w.heap.size 9 1 v2 (9 + (j + 1)) (sv (ON ++ (l.take (j + 1)).map (·.n)))) := by show World.ownsRow _ _ _ _ _ _ _; rw [HTK.out]; first | exact hown2 | (simp only [List.map_take, List.append_assoc] at hown2 ⊢; exact hown2)
          have HB2 := hide hbel2
          clear hgr2 hown2 hbel2 HOA HBA HCL
          obtain ⟨a2, n2, c2, rfl⟩ : ∃ a n c, v2 = .slice a n c := by obtain ⟨a, c, h, _⟩ := own_formG HO2.out; exact ⟨a, _, c, h⟩
          go_wp2_with fail
          go_roundw
          case rel => exact ⟨j + 1, _, _, _, by omega, rfl, by go_num, HO2, HB2⟩
          case measure => simp [intOf]; omega
        · as_aux_lemma =>
          have g2 : ¬ (j : Int) < (l.length : Int) := by omega
          have hjl2 : j = l.length := by omega
          obtain ⟨LL, hLL⟩ : ∃ LL, LL = ON ++ l.map (·.n) := ⟨_, rfl⟩
          have hLn : LL.length = 9 + l.length := by rw [hLL, List.length_append, List.length_map, HOL.out]
          have ho : wz.ownsRow w.heap.size 9 1 (.slice a1 n1 c1) LL.length (sv LL) := by
            have h := HO.out
            rw [hjl2, List.take_length, ← hLL, ← hLn] at h
            exact h
          have hse : (LL.map bl11).mergeSort (fun x y => decide (x ≤ y)) = srn l := by
            unfold srn
            rw [hLL, ← HON.out, nml_eq]
          have HNL : Hid (LL.length = (nms l).length) := by show _ = _; rw [hLn, nms_len]; omega
          rcases id ho.2 with ⟨hv, h0⟩ | ⟨gb, cap', cur, hv, hbb, hgg, -⟩
          · omega
          injection hv with e1 e2 e3
          subst e1
          subst e2
          subst e3
          have HSO := hide (sort_own ho (by omega))
          rw [hse, srn_sv, HNL.out] at HSO
          rw [HNL.out] at ho
          have HOW := hide ho
          have HGG2 : Hid (w.heap.size ≤ gb ∧ gb < wz.heap.size) := ⟨hbb, blk_lt hgg⟩
          have HSM : Hid (∀ s ∈ nms l, s.size ≤ 140737488351232) := fun s hs => by
            rcases (nms_mem l s).1 hs with h | ⟨t, ht, rfl⟩
            · exact HOS.out s (by rw [← HON.out]; exact (owns_mem s).2 h)
            · exact HSZ.out t ht
          have HNM : Hid ((nms l).length ≤ 140737488351232) := by show _ ≤ _; rw [nms_len]; omega
          rw [HNL.out]
          clear hse hLL hLn hgg hbb ho HO cur hjl2 HNL HF HTS
          go_wp2_with fail
          refine HSO.out.mono ?_
          rintro e w3 ⟨rfl, ho3, hg3⟩
          have hb3 : Below w.heap.size w w3 := HBw.out.grown hg3 HBw.out.size (fun q hq => by have := HGG2.out; have := Option.some.inj hq; omega)
          have HSS : Hid (SSl w3 (.slice (some ⟨gb, 0, none⟩) (nms l).length c1) (nms l)) := SSl.own ho3 rfl HNM.out HSM.out
          have HB3 := hide hb3
          have HZ3 : Hid (gb < w3.heap.size) := by have h1 := hg3.size; have h2 := HGG2.out; show _ < _; omega
          have HO3 := hide ho3
          clear ho3 hg3 hb3 HSO
          go_wp2_with fail
          go_ret
          exact ⟨gb, c1, rfl, HSS.out, HB3.out, HGG2.out.1, HZ3.out, HO3.out⟩
end
section
open Go.RowKit Go

end
section
open Go.RowKit Go
theorem tpi_one {w : World} {t : Tp} {c : Array Value} (h : Tpi w t c) : ∀ u ∈ c.toList, u.oneCell' = true := fun u hu => by
  have h := h.all1
  rw [Array.all_eq_true_iff_forall_mem] at h
  exact h u (by simpa using hu)
end
section
open Go.RowKit Go

end
section
open Go.RowKit Go
theorem tsl_n {w : World} {v : Value} {l : List Tp} (h : TSl w v l) : ∀ t ∈ l, t.n.size ≤ 140737488351232 := fun t ht => by
  obtain ⟨i, hi, e⟩ := List.getElem_of_mem ht
  rcases h.form with ⟨_, _, _, _, h | ⟨b, off, _, h⟩⟩
  · rw [h] at ht; cases ht
  · obtain ⟨_, h3, _⟩ := h i t (by rw [List.getElem?_eq_getElem hi, e])
    exact h3.b.n
end
section
open Go.RowKit Go
theorem Ti2.law1 {W w3 U : World} {N top g : Nat} {l : List Tp} {a1 : Option Addr} {n1 k1 : Nat} {v2 : Value} {L1 L2 : List (Array Value)} {ts1 ts2 : List Tp} {A E : Nat → Nat} {c1 c2 : Array Value} {t1 t2 : Tp} {lo1 hi1 lo2 hi2 : Nat} (h : Ti2 W w3 N top g l (.slice a1 n1 k1) v2 L1 L2 ts1 ts2 A E U) (ht : top ≤ w3.heap.size) (p1 : Tol U lo1 hi1 t1 c1) (p2 : Tol U lo2 hi2 t2 c2) (hr : w3.heap.size ≤ lo1 ∧ lo1 ≤ hi1 ∧ hi1 ≤ lo2 ∧ lo2 ≤ hi2 ∧ hi2 ≤ U.heap.size) (hlo : ∀ i, i < ts1.length → E i ≤ lo1) (hv : ∀ q, (Value.slice a1 n1 k1).ownBlock = some q ∨ v2.ownBlock = some q → q < lo1) (hlen : ts1.length ≤ 1000000)
    {ops : Array Oper} {rest : List Oper} {o : Oper} {ac : Act} {Q : Exit → Act → World → Prop} {s y : Operand} (h1 : o.guard = none) (h2 : o.op = .call { callee := .builtin .append, args := #[s, y], argTypes := #[49, 49] }) (h3 : ac.eval s = .slice a1 n1 k1) (h4 : ac.eval y = .slice (some ⟨U.heap.size, 0, none⟩) 2 2)
    (h5 : ∀ a9 n9 c9 w' A' E', Hid (Ti2 W w3 N top g l (.slice a9 n9 c9) v2 (L1 ++ [c1, c2]) L2 (ts1 ++ [t1, t2]) ts2 A' E' w') → Hid (Kp (fun q => (Value.slice a1 n1 k1).ownBlock = some q) U w') → wpList Tryz.prog ops Q rest (ac.put o.dst (.slice a9 n9 c9)) w') : wpList Tryz.prog ops Q (o :: rest) ac (U.alloc (.cells (c1 ++ c2) 69)) := by
  have hb1 := below_alloc4 U (.cells (c1 ++ c2) 69)
  have hx := h.next hb1
  have q1 := p1.next hb1
  have q2 := p2.next hb1
  have i1 := q1.p _ (Kp.refl _ _)
  have i2 := q2.p _ (Kp.refl _ _)
  have hsz := hb1.size
  have hU : w3.heap.size ≤ U.heap.size := h.k.size
  refine append_g2 infoTp3 Tryz.underlying49 rfl (by decide) (by decide) h1 h2 h3 hx.x.o1 h4 (heap_alloc_new U _) i1.size9 i2.size9 (tpi_one i1) (tpi_one i2) (by rw [h.x.n1]; exact hlen) (by omega) (fun v' w' h6 h7 h8 => ?_)
  obtain ⟨a9, c9, hv9, _⟩ := own_formG h6
  subst hv9
  have ht2 := Ti2.tst_new hx.t hx.k h7 hx.x.o1 (Nat.le_refl _) ht
  exact h5 _ _ _ w' _ _ ⟨ht2.1, ht2.2, hx.x.put1 h7 h6 h8 i1.size9 i2.size9 q1 q2 ⟨hr.1, hr.2.1, hr.2.2.1, hr.2.2.2.1, by omega⟩ hlo hv⟩ ((Kp.of_below (S := fun _ => False) hb1).mono (fun _ _ e => e.elim) |>.trans (kp_grown h7) (fun _ _ e => e))
theorem Ti2.law2 {W w3 U : World} {N top g : Nat} {l : List Tp} {a1 : Option Addr} {n1 k1 : Nat} {v1 : Value} {L1 L2 : List (Array Value)} {ts1 ts2 : List Tp} {A E : Nat → Nat} {c1 c2 : Array Value} {t1 t2 : Tp} (h : Ti2 W w3 N top g l v1 (.slice a1 n1 k1) L1 L2 ts1 ts2 A E U) (ht : top ≤ w3.heap.size) (i1 : Tpi W t1 c1) (i2 : Tpi W t2 c2) (hlen : ts2.length ≤ 1000000)
    {ops : Array Oper} {rest : List Oper} {o : Oper} {ac : Act} {Q : Exit → Act → World → Prop} {s y : Operand} (h1 : o.guard = none) (h2 : o.op = .call { callee := .builtin .append, args := #[s, y], argTypes := #[49, 49] }) (h3 : ac.eval s = .slice a1 n1 k1) (h4 : ac.eval y = .slice (some ⟨U.heap.size, 0, none⟩) 2 2)
    (h5 : ∀ a9 n9 c9 w', Hid (Ti2 W w3 N top g l v1 (.slice a9 n9 c9) L1 (L2 ++ [c1, c2]) ts1 (ts2 ++ [t1, t2]) A E w') → wpList Tryz.prog ops Q rest (ac.put o.dst (.slice a9 n9 c9)) w') : wpList Tryz.prog ops Q (o :: rest) ac (U.alloc (.cells (c1 ++ c2) 69)) := by
  have hb1 := below_alloc4 U (.cells (c1 ++ c2) 69)
  have hx := h.next hb1
  have hsz := hb1.size
  have hU : w3.heap.size ≤ U.heap.size := h.k.size
  refine append_g2 infoTp3 Tryz.underlying49 rfl (by decide) (by decide) h1 h2 h3 hx.x.o2 h4 (heap_alloc_new U _) i1.size9 i2.size9 (tpi_one i1) (tpi_one i2) (by rw [h.x.n2]; exact hlen) (by omega) (fun v' w' h6 h7 h8 => ?_)
  obtain ⟨a9, c9, hv9, _⟩ := own_formG h6
  subst hv9
  have ht2 := Ti2.tst_new hx.t hx.k h7 hx.x.o2 (Nat.le_refl _) ht
  exact h5 _ _ _ w' ⟨ht2.1, ht2.2, hx.x.put2 h7 h6 h8 i1.size9 i2.size9 i1 i2⟩
theorem sl_blk11 {g n c q : Nat} (h : (Value.slice (some ⟨g, 0, none⟩) n c).ownBlock = some q) : q = g := (Option.some.inj h).symm
theorem b_ne_self (b : Bool) : (b != b) = false := by cases b <;> rfl
theorem ssl_name {w : World} {an : Option Addr} {cn : Nat} {ns : List ByteArray} (h : SSl w (.slice an ns.length cn) ns) {i : Nat} {s : ByteArray} (hs : ns[i]? = some s) : ∃ b off, an = some ⟨b, off, none⟩ ∧ s.size ≤ 140737488351232 ∧ ∀ wy, SSl wy (.slice an ns.length cn) ns → wy.cell? ⟨b, off + i, none⟩ = some (.string s) := by
  have hz := h.size s (List.mem_of_getElem? hs)
  obtain ⟨⟨a, c, e, _, hc⟩, _, _⟩ := h
  injection e with e1 e2 e3
  obtain ⟨b, off, e4, _⟩ := hc.resolve_left (fun h => by rw [h] at hs; simp at hs)
  refine ⟨b, off, e1.trans e4, hz, fun wy hy => ?_⟩
  obtain ⟨⟨a', c', e', _, hc'⟩, _, _⟩ := hy
  injection e' with e1' e2' e3'
  obtain ⟨b', off', e4', h4⟩ := hc'.resolve_left (fun h => by rw [h] at hs; simp at hs)
  have e5 := Option.some.inj ((e1.trans e4).symm.trans (e1'.trans e4'))
  injection e5 with e6 e7 e8
  subst e6
  subst e7
  exact h4 i s hs
set_option maxRecDepth 1000000 in
set_option maxHeartbeats 8000000 in
theorem told11_any {W w : World} {N top g : Nat} {l : List Tp} {base B : Nat} {C : Array Value} {f : Fin 4 → Fs} {t d u : Nat} (hT : Tst w N top g l) (hO : Otb W) (hbW : Below W.heap.size W w) (hN : W.heap.size ≤ N) (hWb : W.heap.size ≤ base) (hok : Okl l) (hS : Shrt l) (h64 : l.length ≤ 64) (vl : Value) (hl : Wsl W w vl l) (hlq : ∀ q, vl.ownBlock = some q → q ≠ g) (vn : Value) (ns : List ByteArray) (hn : SSl w vn ns) (hnq : ∀ q, vn.ownBlock = some q → q ≠ g) (hn1 : ns.length ≤ 1000) (hk : Bkq w base B C f t d u) (hF : ∀ q, Ft4 B f q → q < N ∨ top ≤ q) (ht : t + 12 * ns.length + 4 < 68719476736) :
    Calls Tryz.prog 12 #[.pointer (some ⟨g, 0, none⟩), vl, vn, .pointer (some ⟨B, 0, none⟩)] w fun e w' => e = .returned (.bool true) ∧ Hid (Tst w' N top g l ∧ ∃ n C' f' u', n ≤ 12 * ns.length + 3 ∧ Bkq w' base B C' f' (t + n) d u' ∧ Kp (fun q => q = g ∨ Ft4 B f q) w w' ∧ ∀ q, Ft4 B f' q → Ft4 B f q ∨ w.heap.size ≤ q) := by
  have hgT := hT.g
  have htop := hT.top_le
  have hbase := hk.sz
  have HOW : Hid (∀ wy, Below W.heap.size W wy → Otb wy) := fun wy hb => hO.next (keep_below hb)
  have HO := hide hO
  have HN := hide hN
  have HOK := hide hok
  have HSH := hide hS
  have H64 := hide h64
  have HG : Hid (N ≤ g ∧ g < top ∧ top ≤ w.heap.size ∧ W.heap.size ≤ N ∧ base ≤ w.heap.size ∧ W.heap.size ≤ w.heap.size) := ⟨hgT.1, hgT.2, htop, hN, hbase, hbW.size⟩
  have HLK : Hid (∀ wy, Kp (fun q => q = g) w wy → Wsl W wy vl l) := fun wy hy => hl.kps hy (fun q e s => hlq q e s)
  have HNK : Hid (∀ wy, Kp (fun q => q = g) w wy → SSl wy vn ns) := fun wy hy => hn.kps hy (fun q e s => hnq q e s)
  have HBWK : Hid (∀ wy, Kp (fun q => q = g) w wy → Below W.heap.size W wy) := fun wy hy => hbW.trans (hy.below hbW.size (fun q e => by omega))
  have HTS : Hid (∀ wy, Kp (fun q => q = g) w wy → TSl wy vl l) := fun wy hy => (HLK.out wy hy).tsl (HBWK.out wy hy)
  have HSZ := hide (tsl_n (HTS.out w (Kp.refl _ _)))
  have HRZ : Hid (∀ t ∈ l, t.r.n.size ≤ 140737488351232) := tsl_r (HTS.out w (Kp.refl _ _))
  have HBK := hide hk
  have HWB := hide hWb
  have HF := hide hF
  have HTT := hide ht
  have HT := hide hT
  have HB0 : Hid (∀ wy, Below w.heap.size w wy → Kp (fun q => q = g) w wy) := fun wy hy => Kp.mono (Kp.of_below (S := fun _ => False) hy) (fun _ _ e => e.elim)
  have hlf := hl.form
  have hnf := hn.form
  obtain ⟨al, cl, rfl, -⟩ := hlf
  obtain ⟨an, cn, rfl, -⟩ := hnf
  have HNL : Hid ((nms l).length ≤ 73) := by show _ ≤ _; rw [nms_len]; omega
  have HRN : Hid (rnm l = nms l) := rnm_nms hok.gdl
  have HI := hide infoTp
  have HAG : Hid (∀ w, (isAgg 69).run Tryz.prog w = .ok true w) := aggTp
  clear hT hO hbW hN hWb hok hS hl hlq hn hnq hk hF ht hgT htop hbase
  go_enter Tryz.func12, Tryz.ntmps12
  go_wp2_with fail
  refine (tst_nameso HT.out (HOW.out _ (HBWK.out _ (Kp.refl _ _))) H64.out HSZ.out).mono ?_
  rintro e w1 ⟨ga, ca, rfl, hP⟩
  have hb1 := hP.out.2.1
  have HT1 := hide (HT.out.next hb1)
  have HB1 := hide hb1
  have HA1 := hide hP.out.1
  have HOA1 := hide hP.out.2.2.2.2
  have HGA : Hid (w.heap.size ≤ ga ∧ ga < w1.heap.size) := ⟨hP.out.2.2.1, hP.out.2.2.2.1⟩
  clear hP hb1
  go_wp2_with fail
  refine (tst_nameso HT1.out (HOW.out _ (HBWK.out _ (HB0.out _ HB1.out))) H64.out HSZ.out).mono ?_
  rintro e w2 ⟨gb, cb, rfl, hP⟩
  have hb2 := hP.out.2.1
  have HT2 := hide (HT1.out.next hb2)
  have HB2 : Hid (Below w.heap.size w w2) := HB1.out.trans (hb2.mono HB1.out.size)
  have HA2 : Hid (SSl w2 (.slice (some ⟨ga, 0, none⟩) (nms l).length ca) (nms l)) := HA1.out.move (keep_below hb2)
  have HOA2 : Hid (w2.ownsRow w.heap.size 9 1 (.slice (some ⟨ga, 0, none⟩) (nms l).length ca) (nms l).length (sv (nms l))) := (Kp.of_below (S := fun _ => False) hb2).owns HOA1.out (fun _ _ e => e)
  have HBb2 := hide hP.out.1
  have HOB2 : Hid (w2.ownsRow w.heap.size 9 1 (.slice (some ⟨gb, 0, none⟩) (nms l).length cb) (nms l).length (sv (nms l))) := own_mono hP.out.2.2.2.2 HB1.out.size
  have HGB : Hid (w1.heap.size ≤ gb ∧ gb < w2.heap.size) := ⟨hP.out.2.2.1, hP.out.2.2.2.1⟩
  clear hP hb2 HT1 HA1 HOA1 
  go_wp2_with fail
  refine (rnames11_any w2 _ l (HTS.out _ (HB0.out _ HB2.out)) (by have := H64.out; omega)).mono ?_
  rintro e w3 ⟨aw, nw, cw, rfl, hP⟩
  rw [HRN.out] at hP
  have hb3 := hP.out.2.1
  have HT3 := hide (HT2.out.next hb3)
  have HB3 : Hid (Below w.heap.size w w3) := HB2.out.trans (hb3.mono HB2.out.size)
  have HA3 : Hid (SSl w3 (.slice (some ⟨ga, 0, none⟩) (nms l).length ca) (nms l)) := HA2.out.move (keep_below hb3)
  have HOA3 : Hid (w3.ownsRow w.heap.size 9 1 (.slice (some ⟨ga, 0, none⟩) (nms l).length ca) (nms l).length (sv (nms l))) := (Kp.of_below (S := fun _ => False) hb3).owns HOA2.out (fun _ _ e => e)
  have HBb3 : Hid (SSl w3 (.slice (some ⟨gb, 0, none⟩) (nms l).length cb) (nms l)) := HBb2.out.move (keep_below hb3)
  have HOB3 : Hid (w3.ownsRow w.heap.size 9 1 (.slice (some ⟨gb, 0, none⟩) (nms l).length cb) (nms l).length (sv (nms l))) := (Kp.of_below (S := fun _ => False) hb3).owns HOB2.out (fun _ _ e => e)
  have HW3 := hide hP.out.1
  have HZ23 := hide hb3.size
  have HGW : Hid (∀ q, (Value.slice aw nw cw).ownBlock = some q → w2.heap.size ≤ q ∧ q < w3.heap.size) := fun q e => hP.out.2.2.r.o.lt q e
  clear hP hb3 HT2 HA2 HOA2 HBb2 HOB2
  go_wp2_with fail
  refine (eqStrings_any HA3.out HW3.out).mono ?_
  rintro e w4 ⟨rfl, hb4⟩
  rw [decide_eq_true rfl]
  have HB34 := hide hb4
  clear hb4
  go_wp2_with fail
  refine (eqStrings_any (HBb3.out.move (keep_below HB34.out)) (HW3.out.move (keep_below HB34.out))).mono ?_
  rintro e w5 ⟨rfl, hb5⟩
  rw [decide_eq_true rfl]
  have HB35 : Hid (Below w3.heap.size w3 w5) := HB34.out.trans (hb5.mono HB34.out.size)
  have HT5 := hide (HT3.out.next HB35.out)
  have HB5 : Hid (Below w.heap.size w w5) := HB3.out.trans (HB35.out.mono HB3.out.size)
  have HOA5 : Hid (w5.ownsRow w.heap.size 9 1 (.slice (some ⟨ga, 0, none⟩) (nms l).length ca) (nms l).length (sv (nms l))) := (Kp.of_below (S := fun _ => False) HB35.out).owns HOA3.out (fun _ _ e => e)
  have HBb5 : Hid (SSl w5 (.slice (some ⟨gb, 0, none⟩) (nms l).length cb) (nms l)) := HBb3.out.move (keep_below HB35.out)
  have HOB5 : Hid (w5.ownsRow w.heap.size 9 1 (.slice (some ⟨gb, 0, none⟩) (nms l).length cb) (nms l).length (sv (nms l))) := (Kp.of_below (S := fun _ => False) HB35.out).owns HOB3.out (fun _ _ e => e)
  have HW5 : Hid (SSl w5 (.slice aw nw cw) (nms l)) := HW3.out.move (keep_below HB35.out)
  have HSZ5 : Hid (w.heap.size ≤ ga ∧ ga < gb ∧ gb < w2.heap.size ∧ w2.heap.size ≤ w3.heap.size ∧ w3.heap.size ≤ w5.heap.size ∧ g < w5.heap.size ∧ top ≤ w5.heap.size) := by
    have h1 := HGA.out
    have h2 := HGB.out
    have h3 := HB35.out.size
    have h4 := HG.out
    have h5 := HB3.out.size
    have h6 := HZ23.out
    show _ ∧ _
    omega
  have HKW : Hid (∀ wy, Kp (fun q => q = g) w5 wy → Kp (fun q => q = g) w wy) := fun wy hy => (HB0.out _ HB5.out).trans hy (fun _ _ e => e)
  have HX0 : Hid (Ti2 W w5 N top g l (.slice none 0 0) (.slice none 0 0) [] [] [] [] (fun _ => 0) (fun _ => 0) w5 ∧ ([] : List Tp).length = 4 * 0) := ⟨⟨HT5.out, Kp.refl _ _, Tw2.start _ _ _⟩, rfl⟩
  clear hb5 HB34 HB35 HT3 HA3 HOA3 HBb3 HOB3 HW3 HT5 HB3 HB2 HB1
  go_wp2_with fail
  go_loopw [12, 13, 14] (fun x1 x2 vi wx => ∃ (i : Nat) (a1 : Option Addr) (n1 k1 : Nat) (a2 : Option Addr) (n2 k2 : Nat) (L1 L2 : List (Array Value)) (ts : List Tp) (A E : Nat → Nat), i ≤ ns.length ∧ x1 = .slice a1 n1 k1 ∧ x2 = .slice a2 n2 k2 ∧ vi = .int .i64 (i : Nat) ∧ Hid (Ti2 W w5 N top g l (.slice a1 n1 k1) (.slice a2 n2 k2) L1 L2 ts ts A E wx ∧ ts.length = 4 * i)) (fun _ _ vi _ => ns.length - (intOf vi).toNat)
  case atStart => exact ⟨0, _, _, _, _, _, _, _, _, _, _, _, by omega, rfl, rfl, rfl, HX0⟩
  case round =>
    obtain ⟨i, a1, n1, k1, a2, n2, k2, L1, L2, ts, A, E, hi, rfl, rfl, rfl, HA⟩ := hrel
    clear HX0
    by_cases hlt : i < ns.length
    · have g1 : (i : Int) < (ns.length : Int) := by omega
      obtain ⟨s, hs⟩ : ∃ s, ns[i]? = some s := ⟨ns[i], List.getElem?_eq_getElem hlt⟩
      obtain ⟨b, off, hbn, hsz, hcell⟩ := ssl_name (HNK.out _ (Kp.refl _ _)) hs
      subst hbn
      have HSS := hide hsz
      have HCL : Hid (∀ wy, Kp (fun q => q = g) w5 wy → wy.cell? ⟨b, off + i, none⟩ = some (.string s)) := fun wy hy => hcell wy (HNK.out wy (HKW.out wy hy))
      clear hs hsz hcell
      go_wp2_with fail
      refine heldStart (S := fun wy => Ti2 W w5 N top g l (.slice a1 n1 k1) (.slice a2 n2 k2) L1 L2 ts ts A E wy) (by kernel_rfl) ?_
      have hS : Ti2 W w5 N top g l (.slice a1 n1 k1) (.slice a2 n2 k2) L1 L2 ts ts A E wr.drew := HA.out.1.next (Below.drew (Below.refl _ _))
      have HTL := hide HA.out.2
      clear HA
      generalize wr.drew = W8 at *
      refine heldTake 0 _ rfl (by kernel_rfl) (by kernel_rfl) (by kernel_rfl) (fun _ _ _ h => h) rfl hS (fun wy hy => by first | (go_simp; done) | (go_simp; rfl) | rfl) ?_
      (try simp only [Act.put]); (try simp only [LsA, Ls0, LsS])
      refine heldTake 1 _ rfl (by kernel_rfl) (by kernel_rfl) (by kernel_rfl) (fun _ _ _ h => h) rfl hS (fun wy hy => by first | (go_simp; done) | (go_simp; rfl) | rfl) ?_
      (try simp only [Act.put]); (try simp only [LsA, Ls0, LsS])
      refine heldTake 2 _ rfl (by kernel_rfl) (by kernel_rfl) (by kernel_rfl) (fun _ _ _ h => h) rfl hS (fun wy hy => by first | (go_simp; done) | (go_simp; rfl) | rfl) ?_
      (try simp only [Act.put]); (try simp only [LsA, Ls0, LsS])
      refine heldTake 3 _ rfl (by kernel_rfl) (by kernel_rfl) (by kernel_rfl) (fun _ _ _ h => h) rfl hS (fun wy hy => by first | (go_simp; done) | (go_simp; rfl) | rfl) ?_
      (try simp only [Act.put]); (try simp only [LsA, Ls0, LsS])
      refine heldTake 4 _ rfl (by kernel_rfl) (by kernel_rfl) (by kernel_rfl) (fun _ _ _ h => h) rfl hS (fun wy hy => by have h0 := HCL.out wy hy.k; first | (go_simp; done) | (go_simp; rfl) | rfl) ?_
      (try simp only [Act.put]); (try simp only [LsA, Ls0, LsS])
      refine heldTake 6 _ rfl (by kernel_rfl) (by kernel_rfl) (by kernel_rfl) (fun _ _ _ h => h) rfl hS (fun wy hy => by first | (go_simp; done) | (go_simp; rfl) | rfl) ?_
      (try simp only [Act.put]); (try simp only [LsA, Ls0, LsS])
      refine heldTake 7 _ rfl (by kernel_rfl) (by kernel_rfl) (by kernel_rfl) (fun _ _ _ h => h) rfl hS (fun wy hy => by first | (go_simp; done) | (go_simp; rfl) | rfl) ?_
      (try simp only [Act.put]); (try simp only [LsA, Ls0, LsS])
      refine heldTake 8 _ rfl (by kernel_rfl) (by kernel_rfl) (by kernel_rfl) (fun _ _ _ h => h) rfl hS (fun wy hy => by first | (go_simp; done) | (go_simp; rfl) | rfl) ?_
      (try simp only [Act.put]); (try simp only [LsA, Ls0, LsS])
      refine heldTake 9 _ rfl (by kernel_rfl) (by kernel_rfl) (by kernel_rfl) (fun _ _ _ h => h) rfl hS (fun wy hy => by first | (go_simp; done) | (go_simp; rfl) | rfl) ?_
      (try simp only [Act.put]); (try simp only [LsA, Ls0, LsS])
      refine heldTake 10 _ rfl (by kernel_rfl) (by kernel_rfl) (by kernel_rfl) (fun _ _ _ h => h) rfl hS (fun wy hy => by have h0 := HCL.out wy hy.k; first | (go_simp; done) | (go_simp; rfl) | rfl) ?_
      (try simp only [Act.put]); (try simp only [LsA, Ls0, LsS])
      refine heldStep 5 rfl (by kernel_rfl) (fun K1 hK1 => ?_)
      go_simp
      refine (tst_filled hS.t HO.out (HBWK.out _ (HKW.out _ hS.k)) HN.out H64.out s HSS.out).mono ?_
      rintro e v3 ⟨F1, rfl, hP⟩
      have HF1 := hide hP.out.1
      have hS1 : Ti2 W w5 N top g l (.slice a1 n1 k1) (.slice a2 n2 k2) L1 L2 ts ts A E v3 := hS.fill hP.out.2.2 hP.out.2.1 (by have := HSZ5.out; omega)
      refine (Hid.out hK1) _ _ hS1 (fun hS2 => ?_)
      clear hK1 K1 hS
      have hS := hS2
      clear hS2
      (try simp only [Act.put]); (try simp only [LsA, Ls0, LsS])
      clear hP hS1
      refine heldStep 11 rfl (by kernel_rfl) (fun K1 hK1 => ?_)
      go_simp
      refine (rfilled11_any _ _ l (HTS.out _ (HKW.out _ hS.k)) (by have := H64.out; omega) s).mono ?_
      rintro e v4 ⟨rfl, hb4⟩
      rw [rfds_fls HOK.out.gdl HF1.out s]
      have hS1 : Ti2 W w5 N top g l (.slice a1 n1 k1) (.slice a2 n2 k2) L1 L2 ts ts A E v4 := hS.next hb4
      refine (Hid.out hK1) _ _ hS1 (fun hS2 => ?_)
      clear hK1 K1 hS
      have hS := hS2
      clear hS2
      (try simp only [Act.put]); (try simp only [LsA, Ls0, LsS])
      clear hb4 hS1 HF1
      generalize memb F1 s = fb at *
      refine heldTake 12 (.bool false) rfl (by kernel_rfl) (by kernel_rfl) (by kernel_rfl) (fun _ _ _ h => h) rfl hS (fun wy hy => by first | (go_simp; done) | (cases fb <;> rfl)) ?_
      (try simp only [Act.put]); (try simp only [LsA, Ls0, LsS])
      refine heldDone (by kernel_rfl) ?_
      have HI0 : Hid (Ti2 W w5 N top g l (.slice a1 n1 k1) (.slice a2 n2 k2) L1 L2 ts ts A E v4 ∧ ts.length = 4 * i + 2 * 0) := ⟨hS, by have := HTL.out; omega⟩
      clear hS HTL
      go_wp2_with fail
      go_loopw [12, 13, 15] (fun x1 x2 vk wx => ∃ (k : Nat) (a1 : Option Addr) (n1 k1 : Nat) (a2 : Option Addr) (n2 k2 : Nat) (L1 L2 : List (Array Value)) (ts : List Tp) (A E : Nat → Nat), k ≤ 2 ∧ x1 = .slice a1 n1 k1 ∧ x2 = .slice a2 n2 k2 ∧ vk = .int .i64 (k : Nat) ∧ Hid (Ti2 W w5 N top g l (.slice a1 n1 k1) (.slice a2 n2 k2) L1 L2 ts ts A E wx ∧ ts.length = 4 * i + 2 * k)) (fun _ _ vk _ => 2 - (intOf vk).toNat)
      case atStart => exact ⟨0, _, _, _, _, _, _, _, _, _, _, _, by omega, rfl, rfl, rfl, HI0⟩
      case round =>
        clear HI0
        rename World => Y0
        obtain ⟨k, a1, n1, k1, a2, n2, k2, L1, L2, ts, A, E, hk2, rfl, rfl, rfl, HA⟩ := hrel
        by_cases hkl : k < 2
        · have g3 : (k : Int) < 2 := by omega
          have HTL := hide HA.out.2
          replace HA := hide HA.out.1
          have HY0 : Hid (w5.heap.size ≤ Y0.heap.size) := HA.out.k.size
          have HLO : Hid (∀ i, i < ts.length → E i ≤ Y0.heap.size) := fun i hi => (HA.out.x.a i hi).2.2
          have HLV : Hid (∀ q, (Value.slice a1 n1 k1).ownBlock = some q ∨ (Value.slice a2 n2 k2).ownBlock = some q → q < Y0.heap.size) := fun q e => e.elim (fun e => (HA.out.x.o1.lt q e).2) (fun e => (HA.out.x.o2.lt q e).2)
          have q0 : Y0.cell? ⟨b, off + i, none⟩ = some (.string s) := HCL.out Y0 HA.out.k
          go_wp2_with fail
          refine (tst_findo HA.out.t (HOW.out _ (HBWK.out _ (HKW.out _ HA.out.k))) HSH.out s HSS.out).mono ?_
          rintro e u1 ⟨c1, rfl, hP, hY⟩
          have hb := hP.out.2.1
          have h9 := hP.out.1
          have hvn := var_new u1 #[.string ⟨#[]⟩, .int .i64 0, .int .i64 0, .int .i64 0, .string ⟨#[]⟩, .bool false, .slice none 0 0, .slice none 0 0, .slice none 0 0] c1
          have hbb : Below Y0.heap.size Y0 ((u1.alloc (.cells #[.string ⟨#[]⟩, .int .i64 0, .int .i64 0, .int .i64 0, .string ⟨#[]⟩, .bool false, .slice none 0 0, .slice none 0 0, .slice none 0 0] 69)).setRow u1.heap.size c1) := hb.trans (hvn.2.mono hb.size)
          have HP1 := hide ((Tol.of hP.out.2.2 hY.out).next hvn.2)
          have HZR1 : Hid (Y0.heap.size ≤ u1.heap.size ∧ u1.heap.size ≤ ((u1.alloc (.cells #[.string ⟨#[]⟩, .int .i64 0, .int .i64 0, .int .i64 0, .string ⟨#[]⟩, .bool false, .slice none 0 0, .slice none 0 0, .slice none 0 0] 69)).setRow u1.heap.size c1).heap.size) := ⟨hb.size, hvn.2.size⟩
          have HVN1 := hide hvn.1
          have HI1 : Hid ((Tryz.prog.info? 69).map (·.size) = some c1.size) := by show _ = _; rw [h9.size9]; exact infoTp
          have HZ1 : Hid ((#[.string ⟨#[]⟩, .int .i64 0, .int .i64 0, .int .i64 0, .string ⟨#[]⟩, .bool false, .slice none 0 0, .slice none 0 0, .slice none 0 0] : Array Value).size = c1.size) := by show _ = _; rw [h9.size9]; rfl
          have HN1 := hide h9.size9
          have HO1 := hide h9.all1
          have HM1 := hide (heap_alloc_new u1 (.cells #[.string ⟨#[]⟩, .int .i64 0, .int .i64 0, .int .i64 0, .string ⟨#[]⟩, .bool false, .slice none 0 0, .slice none 0 0, .slice none 0 0] 69))
          replace HA := hide (HA.out.next hbb)
          clear q0 hP hvn hbb hb h9 hY
          have q1 : ((u1.alloc (.cells #[.string ⟨#[]⟩, .int .i64 0, .int .i64 0, .int .i64 0, .string ⟨#[]⟩, .bool false, .slice none 0 0, .slice none 0 0, .slice none 0 0] 69)).setRow u1.heap.size c1).cell? ⟨b, off + i, none⟩ = some (.string s) := HCL.out _ HA.out.k
          go_wp2_with (refine wpList_storeRow rfl rfl u1.heap.size #[.string ⟨#[]⟩, .int .i64 0, .int .i64 0, .int .i64 0, .string ⟨#[]⟩, .bool false, .slice none 0 0, .slice none 0 0, .slice none 0 0] c1 69 rfl rfl HM1.out HI1.out HZ1.out HO1.out ?_)
          generalize ((u1.alloc (.cells #[.string ⟨#[]⟩, .int .i64 0, .int .i64 0, .int .i64 0, .string ⟨#[]⟩, .bool false, .slice none 0 0, .slice none 0 0, .slice none 0 0] 69)).setRow u1.heap.size c1) = Y1 at *
          refine (rfindo_any W _ (HBWK.out _ (HKW.out _ HA.out.k)) _ l (HLK.out _ (HKW.out _ HA.out.k)) s HSS.out).mono ?_
          rintro e u2 ⟨c2, rfl, hP⟩
          have hb := hP.out.2
          have h9 := hP.out.1
          have hvn := var_new u2 #[.string ⟨#[]⟩, .int .i64 0, .int .i64 0, .int .i64 0, .string ⟨#[]⟩, .bool false, .slice none 0 0, .slice none 0 0, .slice none 0 0] c2
          have hbb : Below Y1.heap.size Y1 ((u2.alloc (.cells #[.string ⟨#[]⟩, .int .i64 0, .int .i64 0, .int .i64 0, .string ⟨#[]⟩, .bool false, .slice none 0 0, .slice none 0 0, .slice none 0 0] 69)).setRow u2.heap.size c2) := hb.trans (hvn.2.mono hb.size)
          have HP2 := hide hP.out.1
          have HZR2 : Hid (Y1.heap.size ≤ u2.heap.size ∧ u2.heap.size ≤ ((u2.alloc (.cells #[.string ⟨#[]⟩, .int .i64 0, .int .i64 0, .int .i64 0, .string ⟨#[]⟩, .bool false, .slice none 0 0, .slice none 0 0, .slice none 0 0] 69)).setRow u2.heap.size c2).heap.size) := ⟨hb.size, hvn.2.size⟩
          have HVN2 := hide hvn.1
          have HI2 : Hid ((Tryz.prog.info? 69).map (·.size) = some c2.size) := by show _ = _; rw [h9.size9]; exact infoTp
          have HZ2 : Hid ((#[.string ⟨#[]⟩, .int .i64 0, .int .i64 0, .int .i64 0, .string ⟨#[]⟩, .bool false, .slice none 0 0, .slice none 0 0, .slice none 0 0] : Array Value).size = c2.size) := by show _ = _; rw [h9.size9]; rfl
          have HN2 := hide h9.size9
          have HO2 := hide h9.all1
          have HM2 := hide (heap_alloc_new u2 (.cells #[.string ⟨#[]⟩, .int .i64 0, .int .i64 0, .int .i64 0, .string ⟨#[]⟩, .bool false, .slice none 0 0, .slice none 0 0, .slice none 0 0] 69))
          replace HA := hide (HA.out.next hbb)
          replace HVN1 := hide ((hbb.block _ (blk_lt HVN1.out)).trans HVN1.out)
          replace HP1 := hide (HP1.out.next hbb)
          clear q1 hP hvn hbb hb h9
          generalize (fnd l s).2 = B1 at *
          have q2 : ((u2.alloc (.cells #[.string ⟨#[]⟩, .int .i64 0, .int .i64 0, .int .i64 0, .string ⟨#[]⟩, .bool false, .slice none 0 0, .slice none 0 0, .slice none 0 0] 69)).setRow u2.heap.size c2).cell? ⟨b, off + i, none⟩ = some (.string s) := HCL.out _ HA.out.k
          go_wp2_with (refine wpList_storeRow rfl rfl u2.heap.size #[.string ⟨#[]⟩, .int .i64 0, .int .i64 0, .int .i64 0, .string ⟨#[]⟩, .bool false, .slice none 0 0, .slice none 0 0, .slice none 0 0] c2 69 rfl rfl HM2.out HI2.out HZ2.out HO2.out ?_)
          generalize ((u2.alloc (.cells #[.string ⟨#[]⟩, .int .i64 0, .int .i64 0, .int .i64 0, .string ⟨#[]⟩, .bool false, .slice none 0 0, .slice none 0 0, .slice none 0 0] 69)).setRow u2.heap.size c2) = Y2 at *
          refine (tst_baseo HA.out.t (HOW.out _ (HBWK.out _ (HKW.out _ HA.out.k))) HSH.out HRZ.out s HSS.out).mono ?_
          rintro e u3 ⟨c3, rfl, hP, hY⟩
          have hb := hP.out.2.1
          have h9 := hP.out.1
          have hvn := var_new u3 #[.string ⟨#[]⟩, .int .i64 0, .int .i64 0, .int .i64 0, .string ⟨#[]⟩, .bool false, .slice none 0 0, .slice none 0 0, .slice none 0 0] c3
          have hbb : Below Y2.heap.size Y2 ((u3.alloc (.cells #[.string ⟨#[]⟩, .int .i64 0, .int .i64 0, .int .i64 0, .string ⟨#[]⟩, .bool false, .slice none 0 0, .slice none 0 0, .slice none 0 0] 69)).setRow u3.heap.size c3) := hb.trans (hvn.2.mono hb.size)
          have HP3 := hide ((Tol.of hP.out.2.2 hY.out).next hvn.2)
          have HZR3 : Hid (Y2.heap.size ≤ u3.heap.size ∧ u3.heap.size ≤ ((u3.alloc (.cells #[.string ⟨#[]⟩, .int .i64 0, .int .i64 0, .int .i64 0, .string ⟨#[]⟩, .bool false, .slice none 0 0, .slice none 0 0, .slice none 0 0] 69)).setRow u3.heap.size c3).heap.size) := ⟨hb.size, hvn.2.size⟩
          have HVN3 := hide hvn.1
          have HI3 : Hid ((Tryz.prog.info? 69).map (·.size) = some c3.size) := by show _ = _; rw [h9.size9]; exact infoTp
          have HZ3 : Hid ((#[.string ⟨#[]⟩, .int .i64 0, .int .i64 0, .int .i64 0, .string ⟨#[]⟩, .bool false, .slice none 0 0, .slice none 0 0, .slice none 0 0] : Array Value).size = c3.size) := by show _ = _; rw [h9.size9]; rfl
          have HN3 := hide h9.size9
          have HO3 := hide h9.all1
          have HM3 := hide (heap_alloc_new u3 (.cells #[.string ⟨#[]⟩, .int .i64 0, .int .i64 0, .int .i64 0, .string ⟨#[]⟩, .bool false, .slice none 0 0, .slice none 0 0, .slice none 0 0] 69))
          replace HA := hide (HA.out.next hbb)
          replace HVN1 := hide ((hbb.block _ (blk_lt HVN1.out)).trans HVN1.out)
          replace HP1 := hide (HP1.out.next hbb)
          replace HVN2 := hide ((hbb.block _ (blk_lt HVN2.out)).trans HVN2.out)
          clear q2 hP hvn hbb hb h9 hY
          have q3 : ((u3.alloc (.cells #[.string ⟨#[]⟩, .int .i64 0, .int .i64 0, .int .i64 0, .string ⟨#[]⟩, .bool false, .slice none 0 0, .slice none 0 0, .slice none 0 0] 69)).setRow u3.heap.size c3).cell? ⟨b, off + i, none⟩ = some (.string s) := HCL.out _ HA.out.k
          go_wp2_with (refine wpList_storeRow rfl rfl u3.heap.size #[.string ⟨#[]⟩, .int .i64 0, .int .i64 0, .int .i64 0, .string ⟨#[]⟩, .bool false, .slice none 0 0, .slice none 0 0, .slice none 0 0] c3 69 rfl rfl HM3.out HI3.out HZ3.out HO3.out ?_)
          generalize ((u3.alloc (.cells #[.string ⟨#[]⟩, .int .i64 0, .int .i64 0, .int .i64 0, .string ⟨#[]⟩, .bool false, .slice none 0 0, .slice none 0 0, .slice none 0 0] 69)).setRow u3.heap.size c3) = Y3 at *
          refine (rbaseo_any W _ (HBWK.out _ (HKW.out _ HA.out.k)) _ l (HLK.out _ (HKW.out _ HA.out.k)) HOK.out.fst s HSS.out).mono ?_
          rintro e u4 ⟨c4, rfl, hP⟩
          have hb := hP.out.2
          have h9 := hP.out.1
          have hvn := var_new u4 #[.string ⟨#[]⟩, .int .i64 0, .int .i64 0, .int .i64 0, .string ⟨#[]⟩, .bool false, .slice none 0 0, .slice none 0 0, .slice none 0 0] c4
          have hbb : Below Y3.heap.size Y3 ((u4.alloc (.cells #[.string ⟨#[]⟩, .int .i64 0, .int .i64 0, .int .i64 0, .string ⟨#[]⟩, .bool false, .slice none 0 0, .slice none 0 0, .slice none 0 0] 69)).setRow u4.heap.size c4) := hb.trans (hvn.2.mono hb.size)
          have HP4 := hide hP.out.1
          have HZR4 : Hid (Y3.heap.size ≤ u4.heap.size ∧ u4.heap.size ≤ ((u4.alloc (.cells #[.string ⟨#[]⟩, .int .i64 0, .int .i64 0, .int .i64 0, .string ⟨#[]⟩, .bool false, .slice none 0 0, .slice none 0 0, .slice none 0 0] 69)).setRow u4.heap.size c4).heap.size) := ⟨hb.size, hvn.2.size⟩
          have HVN4 := hide hvn.1
          have HI4 : Hid ((Tryz.prog.info? 69).map (·.size) = some c4.size) := by show _ = _; rw [h9.size9]; exact infoTp
          have HZ4 : Hid ((#[.string ⟨#[]⟩, .int .i64 0, .int .i64 0, .int .i64 0, .string ⟨#[]⟩, .bool false, .slice none 0 0, .slice none 0 0, .slice none 0 0] : Array Value).size = c4.size) := by show _ = _; rw [h9.size9]; rfl
          have HN4 := hide h9.size9
          have HO4 := hide h9.all1
          have HM4 := hide (heap_alloc_new u4 (.cells #[.string ⟨#[]⟩, .int .i64 0, .int .i64 0, .int .i64 0, .string ⟨#[]⟩, .bool false, .slice none 0 0, .slice none 0 0, .slice none 0 0] 69))
          replace HA := hide (HA.out.next hbb)
          replace HVN1 := hide ((hbb.block _ (blk_lt HVN1.out)).trans HVN1.out)
          replace HP1 := hide (HP1.out.next hbb)
          replace HVN2 := hide ((hbb.block _ (blk_lt HVN2.out)).trans HVN2.out)
          replace HVN3 := hide ((hbb.block _ (blk_lt HVN3.out)).trans HVN3.out)
          replace HP3 := hide (HP3.out.next hbb)
          clear q3 hP hvn hbb hb h9
          generalize (fnd l (flo l s).1).2 = B2 at *
          have nb1 := b_ne_self B1
          have nb2 := b_ne_self B2
          have HTP : Hid (top ≤ w5.heap.size) := HSZ5.out.2.2.2.2.2.2
          go_upto_region 20 with (refine wpList_storeRow rfl rfl u4.heap.size #[.string ⟨#[]⟩, .int .i64 0, .int .i64 0, .int .i64 0, .string ⟨#[]⟩, .bool false, .slice none 0 0, .slice none 0 0, .slice none 0 0] c4 69 rfl rfl HM4.out HI4.out HZ4.out HO4.out ?_)
          generalize ((u4.alloc (.cells #[.string ⟨#[]⟩, .int .i64 0, .int .i64 0, .int .i64 0, .string ⟨#[]⟩, .bool false, .slice none 0 0, .slice none 0 0, .slice none 0 0] 69)).setRow u4.heap.size c4) = Y4 at *
          have HC1 : Hid (∀ j x, c1[j]? = some x → Y4.cell? ⟨u1.heap.size, 0 + j, none⟩ = some x) := fun j x hj => by rw [Nat.zero_add]; exact blk_cell HVN1.out hj
          have HC3 : Hid (∀ j x, c3[j]? = some x → Y4.cell? ⟨u3.heap.size, 0 + j, none⟩ = some x) := fun j x hj => by rw [Nat.zero_add]; exact blk_cell HVN3.out hj
          have HTN : Hid (ts.length ≤ 1000000) := by have h1 := HTL.out; show _ ≤ _; omega
          have HRR : Hid (w5.heap.size ≤ Y0.heap.size ∧ Y0.heap.size ≤ u1.heap.size ∧ u1.heap.size ≤ Y2.heap.size ∧ Y2.heap.size ≤ u3.heap.size ∧ u3.heap.size ≤ Y4.heap.size) := by
            have h1 := HZR1.out
            have h2 := HZR2.out
            have h3 := HZR3.out
            have h4 := HZR4.out
            have h5 := HY0.out
            show _ ∧ _
            omega
          go_upto_region 21 with (first
            | (refine wpList_aggAt rfl rfl HI.out HAG.out u1.heap.size 0 c1 rfl HN1.out HC1.out ?_)
            | (refine wpList_aggAt rfl rfl HI.out HAG.out u3.heap.size 0 c3 rfl HN3.out HC3.out ?_)
            | (refine row2 infoTp3 Tryz.underlying49 (by decide) (by decide) rfl rfl (c := c1) (d := c3) rfl rfl HN1.out HN3.out ?_)
            | (refine Ti2.law1 HA.out HTP.out HP1.out HP3.out HRR.out HLO.out HLV.out HTN.out rfl rfl rfl rfl ?_; intro a8 n8 k8 w8 A8 E8 HA8 HK8))
          have HRV : Hid (Y0.heap.size ≤ u2.heap.size ∧ Y0.heap.size ≤ u4.heap.size) := by
            have h1 := HZR1.out
            have h2 := HZR2.out
            have h3 := HZR3.out
            have h4 := HZR4.out
            show _ ∧ _
            omega
          have HC2 : Hid (∀ j x, c2[j]? = some x → w8.cell? ⟨u2.heap.size, 0 + j, none⟩ = some x) := fun j x hj => by rw [Nat.zero_add]; exact blk_cell ((HK8.out.block _ (blk_lt HVN2.out) (fun e => by have h1 := HLV.out _ (.inl e); have h2 := HRV.out; omega)).trans HVN2.out) hj
          have HC4 : Hid (∀ j x, c4[j]? = some x → w8.cell? ⟨u4.heap.size, 0 + j, none⟩ = some x) := fun j x hj => by rw [Nat.zero_add]; exact blk_cell ((HK8.out.block _ (blk_lt HVN4.out) (fun e => by have h1 := HLV.out _ (.inl e); have h2 := HRV.out; omega)).trans HVN4.out) hj
          clear HA HK8
          go_wp2_with (first
            | (refine wpList_aggAt rfl rfl HI.out HAG.out u2.heap.size 0 c2 rfl HN2.out HC2.out ?_)
            | (refine wpList_aggAt rfl rfl HI.out HAG.out u4.heap.size 0 c4 rfl HN4.out HC4.out ?_)
            | (refine row2 infoTp3 Tryz.underlying49 (by decide) (by decide) rfl rfl (c := c2) (d := c4) rfl rfl HN2.out HN4.out ?_)
            | (refine Ti2.law2 HA8.out HTP.out HP2.out HP4.out HTN.out rfl rfl rfl rfl ?_; intro a9 n9 k9 w9 HA9))
          have HR : Hid (Ti2 W w5 N top g l (.slice a8 n8 k8) (.slice a9 n9 k9) (L1 ++ [c1, c3]) (L2 ++ [c2, c4]) (ts ++ [(fnd l s).1, (fnd l (flo l s).1).1]) (ts ++ [(fnd l s).1, (fnd l (flo l s).1).1]) A8 E8 w9 ∧ (ts ++ [(fnd l s).1, (fnd l (flo l s).1).1]).length = 4 * i + 2 * (k + 1)) := ⟨HA9.out, by rw [two_len]; have := HTL.out; omega⟩
          clear HA8 HA9
          go_roundw
          case rel => (repeat (first | exact ⟨⟨k + 1, _, _, _, _, _, _, _, _, _, _, _, by omega, rfl, rfl, by go_num, HR⟩, rfl⟩ | exact ⟨k + 1, _, _, _, _, _, _, _, _, _, _, _, by omega, rfl, rfl, by go_num, HR⟩ | apply Exists.intro))
          case measure => simp [intOf]; omega
        · have g3 : ¬ (k : Int) < 2 := by omega
          have HR : Hid (Ti2 W w5 N top g l (.slice a1 n1 k1) (.slice a2 n2 k2) L1 L2 ts ts A E Y0 ∧ ts.length = 4 * (i + 1)) := ⟨HA.out.1, by have := HA.out.2; omega⟩
          clear HA
          go_wp2_with fail
          go_roundw
          case rel => (repeat (first | exact ⟨⟨i + 1, _, _, _, _, _, _, _, _, _, _, _, by omega, rfl, rfl, by go_num, HR⟩, rfl⟩ | exact ⟨i + 1, _, _, _, _, _, _, _, _, _, _, _, by omega, rfl, rfl, by go_num, HR⟩ | apply Exists.intro))
          case measure => simp [intOf]; omega
    · have g1 : ¬ (i : Int) < (ns.length : Int) := by omega
      have hin : i = ns.length := by omega
      have HX := hide HA.out.1
      have HTL := hide HA.out.2
      clear HA
      have HZX : Hid (w5.heap.size ≤ wr.heap.size) := HX.out.k.size
      have HKX : Hid (Kp (fun q => q = g) w wr) := HKW.out _ HX.out.k
      have HBX : Hid (Bkq wr base B C f t d u) := HBK.out.kp HKX.out (fun q e s => by have h1 := HF.out q e; have h2 := HG.out; omega)
      have HOA : Hid (wr.ownsRow base 9 1 (.slice (some ⟨ga, 0, none⟩) (nms l).length ca) (nms l).length (sv (nms l))) := own_mono (HX.out.k.owns HOA5.out (fun q e s => by have h1 := sl_blk11 e; have h2 := HG.out; have h3 := HSZ5.out; omega)) HG.out.2.2.2.2.1
      have HOB : Hid (wr.ownsRow base 9 1 (.slice (some ⟨gb, 0, none⟩) (nms l).length cb) (nms l).length (sv (nms l))) := own_mono (HX.out.k.owns HOB5.out (fun q e s => by have h1 := sl_blk11 e; have h2 := HG.out; have h3 := HSZ5.out; omega)) HG.out.2.2.2.2.1
      have HSB : Hid (SSl wr (.slice (some ⟨gb, 0, none⟩) (nms l).length cb) (nms l)) := HBb5.out.kps HX.out.k (fun q e s => by have h1 := sl_blk11 e; have h2 := HG.out; have h3 := HSZ5.out; omega)
      have HSW : Hid (SSl wr (.slice aw nw cw) (nms l)) := HW5.out.kps HX.out.k (fun q e s => by have h1 := HGW.out q e; have h2 := HG.out; have h3 := HSZ5.out; omega)
      go_wp2_with fail
      refine (bktexts_any HBX.out _ _ _ HOA.out (by have := HNL.out; omega) (fun q e s => by have h1 := sl_blk11 e; have h2 := HBK.out.lt q s; have h3 := HSZ5.out; omega) (by have := HTT.out; omega)).mono ?_
      rintro e x1 ⟨rfl, hP⟩
      obtain ⟨C1, f1, u1, hb1, hk1, hf1⟩ := hP.out
      have HB1 := hide hb1
      have HK1 := hide hk1
      have HF1 : Hid (∀ q, Ft4 B f1 q → Ft4 B f q ∨ q = ga ∨ wr.heap.size ≤ q) := fun q e => (hf1 q e).imp id (fun h => h.imp (fun h => sl_blk11 h) id)
      have HTX1 : Hid (Tst x1 N top g l) := HX.out.t.kps hk1 (fun q e => e.elim (HF.out q) (fun e => .inr (by have h1 := sl_blk11 e; have h2 := HSZ5.out; have h3 := HG.out; omega))) (fun q e => e.elim (HBX.out.cel q) (own_blk11 HOA.out q))
      have HSB1 : Hid (SSl x1 (.slice (some ⟨gb, 0, none⟩) (nms l).length cb) (nms l)) := HSB.out.kps hk1 (fun q e s => by
        have h1 := sl_blk11 e
        have h3 := HSZ5.out
        rcases s with s | s
        · have h2 := HBK.out.lt q s
          omega
        · have h2 := sl_blk11 s
          omega)
      have HSW1 : Hid (SSl x1 (.slice aw nw cw) (nms l)) := HSW.out.kps hk1 (fun q e s => by
        have h1 := HGW.out q e
        have h3 := HSZ5.out
        rcases s with s | s
        · have h2 := HBK.out.lt q s
          omega
        · have h2 := sl_blk11 s
          omega)
      have HOB1 : Hid (x1.ownsRow base 9 1 (.slice (some ⟨gb, 0, none⟩) (nms l).length cb) (nms l).length (sv (nms l))) := hk1.owns HOB.out (fun q e s => by
        have h1 := sl_blk11 e
        have h3 := HSZ5.out
        rcases s with s | s
        · have h2 := HBK.out.lt q s
          omega
        · have h2 := sl_blk11 s
          omega)
      clear hP hb1 hk1 hf1 HSB HSW HOB
      go_wp2_with fail
      refine (eqStrings_any HSB1.out HSW1.out).mono ?_
      rintro e x2 ⟨rfl, hb2⟩
      rw [decide_eq_true rfl]
      have HB12 := hide hb2
      have HB2 := hide (HB1.out.next hb2)
      have HTX2 := hide (HTX1.out.next hb2)
      have HOB2 : Hid (x2.ownsRow base 9 1 (.slice (some ⟨gb, 0, none⟩) (nms l).length cb) (nms l).length (sv (nms l))) := (Kp.of_below (S := fun _ => False) hb2).owns HOB1.out (fun _ _ e => e)
      clear hb2 HSB1 HSW1 HOB1 HTX1
      go_wp2_with fail
      refine (bktexts_any HB2.out _ _ _ HOB2.out (by have := HNL.out; omega) (fun q e s => by
        have h1 := sl_blk11 e
        have h3 := HSZ5.out
        have h5 := HZX.out
        rcases HF1.out q s with h | h | h
        · have h2 := HBK.out.lt q h
          omega
        · omega
        · omega) (by have := HTT.out; omega)).mono ?_
      rintro e x3 ⟨rfl, hP⟩
      obtain ⟨C2, f2, u2, hb3, hk3, hf3⟩ := hP.out
      have HB3 := hide hb3
      have HF2 : Hid (∀ q, Ft4 B f2 q → Ft4 B f q ∨ q = ga ∨ q = gb ∨ wr.heap.size ≤ q) := fun q e => by
        rcases hf3 q e with h | h | h
        · exact (HF1.out q h).imp id (fun h => h.imp id .inr)
        · exact .inr (.inr (.inl (sl_blk11 h)))
        · exact .inr (.inr (.inr (by have h1 := HK1.out.size; have h2 := HB12.out.size; omega)))
      have HTX3 : Hid (Tst x3 N top g l) := HTX2.out.kps hk3 (fun q e => by
        have h3 := HSZ5.out
        have h4 := HG.out
        have h5 := HZX.out
        rcases e with e | e
        · rcases HF1.out q e with h | h | h
          · exact HF.out q h
          · exact .inr (by omega)
          · exact .inr (by omega)
        · exact .inr (by have h1 := sl_blk11 e; omega)) (fun q e => e.elim (HB2.out.cel q) (own_blk11 HOB2.out q))
      have HK13 : Hid (Kp (fun q => Ft4 B f q ∨ q = ga ∨ q = gb) wr x3) := ((HK1.out.mono (fun q _ e => e.imp id (fun e => .inl (sl_blk11 e)))).trans (Kp.of_below (S := fun _ => False) HB12.out) (fun _ _ e => e.elim)).trans hk3 (fun q hq e => by
        rcases e with e | e
        · rcases HF1.out q e with h | h | h
          · exact .inl h
          · exact .inr (.inl h)
          · omega
        · exact .inr (.inr (sl_blk11 e)))
      have HLW : Hid (∀ q, (Ft4 B f q ∨ q = ga ∨ q = gb) → W.heap.size ≤ q ∧ q < w5.heap.size) := fun q e => by
        have h3 := HSZ5.out
        have h4 := HG.out
        have h5 := HWB.out
        rcases e with e | e | e
        · have h2 := HBK.out.lt q e
          omega
        · omega
        · omega
      have HX3 := hide (HX.out.x.kp HK13.out (fun q e => (HLW.out q e).2))
      have HBW3 : Hid (Below W.heap.size W x3) := (HBWK.out _ HKX.out).trans (HK13.out.below (HBWK.out _ HKX.out).size (fun q e => (HLW.out q e).1))
      have HTN : Hid (ts.length ≤ 140737488351232) := by have h1 := HTL.out; show _ ≤ _; omega
      clear hP hb3 hk3 hf3 HTX2 HB2 HOB2 HB12 HK1
      go_wp2_with fail
      refine (eqTs_any (HX3.out.tsl1 HTN.out) (HX3.out.tsl2 HTN.out HBW3.out)).mono ?_
      rintro e x4 ⟨rfl, hb4⟩
      have HTX4 := hide (HTX3.out.next hb4)
      have HB4 := hide (HB3.out.next hb4)
      have HTY := hide ((HX3.out.next hb4).tyr (base := base) (by have h1 := HG.out; have h2 := HSZ5.out; omega))
      have HK14 : Hid (Kp (fun q => Ft4 B f q ∨ q = ga ∨ q = gb) wr x4) := HK13.out.trans (Kp.of_below (S := fun _ => False) hb4) (fun _ _ e => e.elim)
      have HLL : Hid (L1.length = 4 * ns.length) := by show _ = _; rw [HX3.out.n1, HTL.out, hin]
      have HDR : Hid (∀ q, ((Value.slice a1 n1 k1).ownBlock = some q ∨ ∃ (i : Nat) (c : Array Value), L1[i]? = some c ∧ tyq c q) → w5.heap.size ≤ q ∧ q < wr.heap.size) := fun q e => ((HX.out.x.tyr (base := base) (by have h1 := HG.out; have h2 := HSZ5.out; omega)).2 q e).imp id (fun h => h.1)
      clear hb4 HTX3 HX3 HB3 HK13 HBW3 HTN
      go_wp2_with fail
      refine (typesM_any x4 base B C2 f2 (t + 1 + 1) d u2 _ _ L1 _ HB4.out HTY.out.1 (fun q e => ⟨(HTY.out.2 q e).2.1, fun s => by
        have h1 := HDR.out q e
        have h3 := HSZ5.out
        rcases HF2.out q s with h | h | h | h
        · have h2 := HBK.out.lt q h
          have h4 := HG.out
          omega
        · omega
        · omega
        · omega⟩) (by have h1 := HLL.out; omega) (by have h1 := HLL.out; have h2 := HTT.out; omega)).mono ?_
      rintro e x5 ⟨rfl, hP⟩
      obtain ⟨n, hn, C3, f3, u3, hb5, hk5, hf5⟩ := hP.out
      have HEND : Hid (Tst x5 N top g l ∧ ∃ n C' f' u', n ≤ 12 * ns.length + 3 ∧ Bkq x5 base B C' f' (t + n) d u' ∧ Kp (fun q => q = g ∨ Ft4 B f q) w x5 ∧ ∀ q, Ft4 B f' q → Ft4 B f q ∨ w.heap.size ≤ q) := by
        have h3 := HSZ5.out
        have h4 := HG.out
        have h5 := HZX.out
        have hz4 := HK14.out.size
        refine ⟨HTX4.out.kps hk5 (fun q e => ?_) (fun q e => e.elim (HB4.out.cel q) (fun e => (HTY.out.2 q e).2.2)), n + 2, C3, f3, u3, by have h1 := HLL.out; omega, (by rw [show t + (n + 2) = t + 1 + 1 + n by omega]; exact hb5), ?_, fun q e => ?_⟩
        · rcases e with e | e
          · rcases HF2.out q e with h | h | h | h
            · exact HF.out q h
            · exact .inr (by omega)
            · exact .inr (by omega)
            · exact .inr (by omega)
          · exact .inr (by have h1 := HDR.out q e; omega)
        · refine ((HKX.out.mono (fun q _ e => .inl e)).trans HK14.out (fun q hq e => ?_)).trans hk5 (fun q hq e => ?_)
          · rcases e with e | e | e
            · exact .inr e
            · omega
            · omega
          · rcases e with e | e
            · rcases HF2.out q e with h | h | h | h
              · exact .inr h
              · omega
              · omega
              · omega
            · have h1 := HDR.out q e
              omega
        · rcases hf5 q e with h | h | h
          · rcases HF2.out q h with h | h | h | h
            · exact .inl h
            · exact .inr (by omega)
            · exact .inr (by omega)
            · exact .inr (by omega)
          · exact .inr (by have h1 := HDR.out q h; omega)
          · exact .inr (by omega)
      clear hP hb5 hk5 hf5 HTX4 HB4 HTY HK14 HDR
      go_wp2_with fail
      go_ret
      exact ⟨rfl, HEND.out⟩
end
end Go.Proofs.YtbbalhfjgpaabaaGreatDoor
