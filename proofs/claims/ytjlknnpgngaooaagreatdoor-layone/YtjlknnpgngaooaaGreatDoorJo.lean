import Derived.Test.YtjlknnpgngaooaaGreatDoorJn
import Derived.Test.YtjlknnpgngaooaaGreatDoorJf
import Derived.Test.YtjlknnpgngaooaaGreatDoorJe
import Derived.Test.YtjlknnpgngaooaaGreatDoorJg
import Derived.Test.YtjlknnpgngaooaaGreatDoorJj
import Derived.Test.YtjlknnpgngaooaaGreatDoorJa
import Derived.Test.YtjlknnpgngaooaaGreatDoorJb
import Derived.DeepKeys
import Derived.Lib.SlBytesConst
import Derived.StillTailTactics
namespace Go.Proofs.YtjlknnpgngaooaaGreatDoor
section
open Go.RowKit Go
def TurC7 (t : Tv) : Prop := ∀ (w : World) (cs : Array Value), Tin w t cs → tmuch t ≤ 100000 → Trk t → Calls Tryz.prog 20 #[.agg cs] w fun e w' => ∃ c', e = .returned (.agg c') ∧ ∃ t', Trn t t' ∧ Tis w' (fun q => q < w.heap.size) t' c' ∧ Below w.heap.size w w'
theorem end_tn7 {wx : World} {R : Nat} {c : Array Value} {tmps : Array Value} (hn : c.size = 13) (hr : wx.heap[R]? = some (.cells c 65 (0, 0))) (hp : tmps.getD 2 undef = .pointer (some ⟨R, 0, none⟩)) : (results Tryz.f20 tmps).run Tryz.prog wx = .ok (.agg c) wx := by
  refine (results_one (p := 2) (ty := 65) rfl _ _ _).trans ?_
  rw [hp]
  have h1 := run_loadVar_row (P := Tryz.prog) wx R 65 65 c (0, 0) _ hr Tryz.underlying65 rfl (by rw [hn]; exact infoV)
  simp [asAddr, h1, Result.andThen]
theorem Ntv.parts7 {w : World} {lo hi : Nat} {t : Tv} {c : Array Value} (h : Ntv w lo hi t c) : ∃ vy vk vi L, c = vcs t vy vk vi ∧ Tbd t ∧ (∀ x ∈ t.y, x < 256) ∧ w.ownsRow lo 5 1 vy t.y.length (bv t.y) ∧ (∀ q, vy.ownBlock = some q → q < hi) ∧ w.ownsRow lo 9 1 vk t.ks.length (sv t.ks) ∧ (∀ q, vk.ownBlock = some q → q < hi) ∧ t.ks.length ≤ 140737488351232 ∧ (∀ s ∈ t.ks, s.size ≤ 140737488351232) ∧
      w.ownsRow lo 65 13 vi t.is.length (vfl L) ∧ (∀ q, vi.ownBlock = some q → q < hi) ∧ t.is.length ≤ 140737488351232 ∧ L.length = t.is.length ∧ (∀ c ∈ L, c.size = 13) := by
  cases h with
  | mk _ vy vk vi L hbd hyb hy hgy hk hgk hkl hks hv hgi hil hL h13 hcs => exact ⟨vy, vk, vi, L, rfl, hbd, hyb, hy, hgy, hk, hgk, hkl, hks, hv, hgi, hil, hL, h13⟩
theorem own_some7 {w : World} {B e s n : Nat} {v : Value} {xs : List Value} (h : w.ownsRow B e s v n xs) (hn : 0 < n) : ∃ g cap cur, v = .slice (some ⟨g, 0, none⟩) n cap ∧ w.heap[g]? = some (.cells cur e (0, 0)) ∧ cur.size = cap * s ∧ n ≤ cap := by
  rcases h.2 with ⟨_, h0⟩ | ⟨g, cap, cur, e1, _, h2, h3, h4, h5, _⟩
  · omega
  · exact ⟨g, cap, cur, e1, h2, h5, h3⟩
set_option maxRecDepth 1000000 in
set_option maxHeartbeats 4000000 in
theorem turned_step7 (t : Tv) (ih : ∀ u ∈ t.is, TurC7 u) : TurC7 t := by
  intro w cs ht hm hT
  have HIH := hide ih
  have HTK := hide hT
  have HTI := hide ht
  have HMM : Hid (∀ u ∈ t.is, tmuch u ≤ 100000) := fun u hu => Nat.le_trans (tmuchL_mem hu) (by obtain ⟨k, f, g, n, b, s, y, l, ks, is⟩ := t; rw [tmuch] at hm; simp only [Tv.is]; omega)
  have HSU := hide ht.size13
  obtain ⟨ay, ak, ai, hcs, _, hkA, hiA, hbd⟩ := ht.parts
  have HBD := hide hbd
  obtain ⟨⟨aK, capK, hvk, hcK, hfK⟩, hmK, hszK⟩ := hkA
  obtain ⟨⟨aI, capI, hvi, hcI, hfI⟩, hmI⟩ := hiA
  have H11 : Hid (cs[11]? = some (.slice aK t.ks.length capK)) := by show _ = _; rw [hcs, hvk]; rfl
  have H12 : Hid (cs[12]? = some (.slice aI t.is.length capI)) := by show _ = _; rw [hcs, hvi]; rfl
  have HFK := hide hfK
  have HFI := hide hfI
  have HB0 : Hid (Below w.heap.size w ((w.alloc (.cells cs 65)).alloc (.cells zv 65))) := by
    have h1 := below_alloc4 w (.cells cs 65)
    exact h1.trans ((below_alloc4 (w.alloc (.cells cs 65)) (.cells zv 65)).mono h1.size)
  have hs0 : ((w.alloc (.cells cs 65)).alloc (.cells zv 65)).heap.size = w.heap.size + 2 := by simp
  have HA0 : Hid (((w.alloc (.cells cs 65)).alloc (.cells zv 65)).heap[w.heap.size]? = some (.cells cs 65 (0, 0))) := blk_alloc _ (heap_alloc_new w _)
  have HR0 : Hid (((w.alloc (.cells cs 65)).alloc (.cells zv 65)).heap[w.heap.size + 1]? = some (.cells zv 65 (0, 0))) := by
    have h := heap_alloc_new (w.alloc (.cells cs 65)) (.cells zv 65)
    rw [show (w.alloc (.cells cs 65)).heap.size = w.heap.size + 1 by simp] at h
    exact h
  have HCA : Hid (∀ j x, cs[j]? = some x → ((w.alloc (.cells cs 65)).alloc (.cells zv 65)).cell? ⟨w.heap.size, 0 + j, none⟩ = some x) := fun j x hx => by rw [Nat.zero_add]; exact blk_cell HA0.out hx
  have HCP := hide (copyValue_any t ((w.alloc (.cells cs 65)).alloc (.cells zv 65)) cs (ht.move (keep_below HB0.out)) hm)
  clear hcs hbd hvk hvi hfK hfI ht hm ih hT
  unfold zv at HB0 HA0 HR0 HCA HCP hs0
  go_enter Tryz.func20, Tryz.ntmps20
  go_wp2_with (refine wpList_exec rfl (exec_valAt (g := w.heap.size) (off := 0) (cs := cs) rfl rfl HSU.out HCA.out) ?_)
  generalize (w.alloc (.cells cs 65)).alloc (.cells #[.int .i64 0, .bool false, .bool false, .int .u64 0, .int .u64 0, .string ⟨#[]⟩, .slice none 0 0, .int .i64 0, .int .u64 0, .int .u64 0, .string ⟨#[]⟩, .slice none 0 0, .slice none 0 0] 65) = w0 at *
  refine HCP.out.mono ?_
  rintro e w1 ⟨c, rfl, hntv, hb1⟩
  obtain ⟨vy, vk, vi, L, hcv, _, hyb, hyo, hyg, hko, hkg, hkl, hks, hio, hig, hil, hL, h13⟩ := hntv.parts7
  have HYB := hide hyb
  have HKS := hide hks
  have HS1 := hide hntv.size
  have HA1 := hide hntv.tin.all1
  have HCV := hide hcv
  have hmk := row_mk8 w1 zv c 65
  have HG0 := hide (heap_alloc_new w1 (.cells zv 65))
  have HIN : Hid ((Tryz.prog.info? 65).map (·.size) = some c.size) := by show _ = _; rw [HS1.out]; exact infoV
  have HZV : Hid (zv.size = c.size) := by show _ = _; rw [HS1.out]; rfl
  have HT2 : Hid (Trd w ((w1.alloc (.cells zv 65)).setRow w1.heap.size c) t cs w1.heap.size vy vk vi t.ks [] L) := by
    have hk : Kp (fun _ => False) w1 ((w1.alloc (.cells zv 65)).setRow w1.heap.size c) := Kp.of_below hmk.1
    have hb01 : Below w0.heap.size w0 ((w1.alloc (.cells zv 65)).setRow w1.heap.size c) := hb1.trans (hmk.1.mono hb1.size)
    have hsz := hb1.size
    rw [hs0] at hyo hko hio
    exact ⟨HB0.out.trans (hb01.mono HB0.out.size), (hb01.block _ (blk_lt HA0.out)).trans HA0.out, (hb01.block _ (blk_lt HR0.out)).trans HR0.out, by rw [← hcv]; exact hmk.2, by omega, hk.owns hyo (fun _ _ e => e), hyg, hk.owns hko (fun _ _ e => e), rfl, hkg, hk.owns hio (fun _ _ e => e), hL, h13, hig, fun s hs => hs, fun _ j hj => by simp at hj, fun _ => rfl, by simp, fun j u c h => by simp at h, fun j u v h => by simp at h⟩
  obtain ⟨aX, capX, hvX⟩ := own_slice hio
  have H12c : Hid (c[12]? = some (.slice aX t.is.length capX)) := by show _ = _; rw [hcv, hvX]; rfl
  have H0c : Hid (c[0]? = some (.int .i64 t.k)) := by show _ = _; rw [hcv]; rfl
  clear hmk hb1 hntv hyb hks hyo hyg hko hkg hio hig hL h13 hcv HB0 HA0 HR0 HCA HCP
  go_upto_region 2 with (refine wpList_storeRow rfl rfl w1.heap.size zv c 65 rfl rfl HG0.out HIN.out HZV.out HA1.out ?_)
  (try simp only [Act.put]); (try simp only [List.setIfInBounds_toArray, List.set_cons_zero, List.set_cons_succ])
  clear HG0 HIN HZV
  unfold zv at HT2
  generalize (w1.alloc (.cells #[.int .i64 0, .bool false, .bool false, .int .u64 0, .int .u64 0, .string ⟨#[]⟩, .slice none 0 0, .int .i64 0, .int .u64 0, .int .u64 0, .string ⟨#[]⟩, .slice none 0 0, .slice none 0 0] 65)).setRow w1.heap.size c = w2 at *
  generalize w1.heap.size = g at *
  have c12 : w2.cell? ⟨g, 12, none⟩ = some (.slice aX t.is.length capX) := blk_cell (j := 12) (cur := c) (by rw [HCV.out]; exact HT2.out.x) H12c.out
  go_wp2_with fail
  clear c12
  go_loopw [5] (fun ii wx => ∃ (kk : List ByteArray) (ms : List Tv) (L : List (Array Value)), ii = .int .i64 (ms.length : Nat) ∧ ms.length ≤ t.is.length ∧ Hid (Trd w wx t cs g vy vk vi kk ms L)) (fun ii _ => t.is.length - (intOf ii).toNat)
  case atStart => exact ⟨t.ks, [], L, rfl, by simp, HT2⟩
  case round =>
    obtain ⟨kk, ms, L, rfl, hmn, HD⟩ := hrel
    clear HT2
    by_cases hlt : ms.length < t.is.length
    case neg => as_aux_lemma =>
      have g1 : ¬ (ms.length : Int) < (t.is.length : Int) := by omega
      have HXC : Hid (∀ j x, c[j]? = some x → wr.cell? ⟨g, 0 + j, none⟩ = some x) := fun j x hx => by rw [Nat.zero_add]; exact blk_cell (by rw [HCV.out]; exact HD.out.x) hx
      have HR := hide HD.out.r
      have HINc : Hid ((Tryz.prog.info? 65).map (·.size) = some c.size) := by show _ = _; rw [HS1.out]; exact infoV
      have HZVc : Hid (zv.size = c.size) := by show _ = _; rw [HS1.out]; rfl
      go_wp2_with (first
        | (refine wpList_exec rfl (exec_valAt (g := g) (off := 0) (cs := c) rfl rfl HS1.out HXC.out) ?_)
        | (refine wpList_storeRow rfl rfl (w.heap.size + 1) zv c 65 rfl rfl HR.out HINc.out HZVc.out HA1.out ?_))
      have hkr := row_kp wr (w.heap.size + 1) c
      have hgl := HD.out.gl
      obtain ⟨t', h1, h2⟩ := HD.out.done (by omega) HTK.out HBD.out HYB.out hkl HKS.out hil
      exact bodyPost_ret (end_tn7 HS1.out (row_same HR.out) rfl) rfl ⟨c, rfl, t', h1, by rw [HCV.out]; exact (h2.kp ((row_kp wr (w.heap.size + 1) (vcs t vy vk vi)).mono (fun q _ e => by omega))).mono (fun q e => by omega), HD.out.b.trans (hkr.below HD.out.b.size (fun q e => by omega))⟩
    have g1 : (ms.length : Int) < (t.is.length : Int) := by omega
    obtain ⟨i, hi⟩ : ∃ i, i = ms.length := ⟨_, rfl⟩
    have HI := hide hi
    rw [← hi] at g1 hlt hmn
    have c0 : wr.cell? ⟨g, 0, none⟩ = some (.int .i64 t.k) := blk_cell (j := 0) (cur := c) (by rw [HCV.out]; exact HD.out.x) H0c.out
    rw [← hi]
    clear hi
    go_upto_if 20 with fail
    go_cut [6] from 12 to 43 (fun xx wx => ∃ (k : Nat) (kk : List ByteArray), xx = .int .i64 (k : Nat) ∧ k < t.is.length ∧ Hid (k = if t.k = 9 then t.is.length - 1 - i else i) ∧ Hid (Trd w wx t cs g vy vk vi kk ms L) ∧ Hid (t.k = 9 → kk[i]? = t.ks[t.is.length - 1 - i]?))
    case first =>
      by_cases h9 : t.k = 9
      · as_aux_lemma =>
        have g9 : (t.k == 9) = true := beq_iff_eq.2 h9
        have e1 : IntKind.i64.wrap ((t.is.length : Int) - 1) = (t.is.length : Int) - 1 := by rw [IntKind.wrap_i64]; omega
        have e2 : IntKind.i64.wrap ((t.is.length : Int) - 1 - (i : Int)) = ((t.is.length - 1 - i : Nat) : Int) := by rw [IntKind.wrap_i64]; omega
        have hlen := (HTK.out.m h9).1
        obtain ⟨k, hk⟩ : ∃ k, k = t.is.length - 1 - i := ⟨_, rfl⟩
        rw [← hk] at e2
        obtain ⟨bK, capX2, curK, hvK, hgK, _, _⟩ := own_some7 HD.out.ko (by omega)
        subst hvK
        obtain ⟨bA, oA, rfl, hcA⟩ := HFK.out.resolve_left (fun h => by rw [h] at hlen; simp at hlen; omega)
        obtain ⟨s, hs⟩ : ∃ s, t.ks[k]? = some s := ⟨_, List.getElem?_eq_getElem (show k < t.ks.length by omega)⟩
        have HSC := hide (hcA k s hs)
        have HSM := hide (List.mem_of_getElem? hs)
        have HHS := hide hs
        have HKI := hide hk
        have HKX := hide HD.out.x
        have H11c : Hid (c[11]? = some (.slice (some ⟨bK, 0, none⟩) t.ks.length capX2)) := by show _ = _; rw [HCV.out]; rfl
        have HG1 : Hid (∀ wy, Kp (fun q => q = bK) wr wy → wy.cell? ⟨g, 11, none⟩ = some (.slice (some ⟨bK, 0, none⟩) t.ks.length capX2)) := fun wy hy => hy.cell (blk_cell (j := 11) (cur := c) (by rw [HCV.out]; exact HD.out.x) H11c.out) (by have := HD.out.kg bK rfl; show ¬ g = bK; omega)
        have HG2 : Hid (∀ wy, Kp (fun q => q = bK) wr wy → wy.cell? ⟨w.heap.size, 11, none⟩ = some (.slice (some ⟨bA, oA, none⟩) t.ks.length capK)) := fun wy hy => hy.cell (blk_cell (j := 11) HD.out.a H11.out) (by have := (HD.out.ko.lt bK rfl).1; show ¬ w.heap.size = bK; omega)
        have HG3 : Hid (∀ wy, Kp (fun q => q = bK) wr wy → wy.cell? ⟨bA, oA + k, none⟩ = some (.string s)) := fun wy hy => hy.cell (keep_below HD.out.b _ _ HSC.out) (by have h1 := (HD.out.ko.lt bK rfl).1; have h2 := cell_lt6 HSC.out; simp only at h2; show ¬ bA = bK; omega)
        have gk : (k : Int) < (t.ks.length : Int) := by omega
        have gi : (i : Int) < (t.ks.length : Int) := by omega
        have HKL : Hid (k < t.is.length) := by show _ < _; omega
        obtain ⟨old, hold⟩ : ∃ x, (sv kk)[i]? = some x := ⟨_, List.getElem?_eq_getElem (show i < (sv kk).length by have := HD.out.kl; simp [sv]; omega)⟩
        have hoc := own_cell ((HD.out.next (wy := wr.drew) (Below.refl _ _).drew).ko) hold
        have o1 := hoc.1
        have o2 := hoc.2
        have HFIN : Hid (Trd w ((wr.setCell ⟨bK, i, none⟩ (.string s)).drew) t cs g vy (.slice (some ⟨bK, 0, none⟩) t.ks.length capX2) vi (kk.set i s) ms L) := by
          have h := HD.out.key s HSM.out h9
          rw [← HI.out] at h
          exact h.next (Below.refl _ _).drew
        have HFK2 : Hid ((kk.set i s)[i]? = t.ks[t.is.length - 1 - i]?) := by
          show _ = _
          rw [List.getElem?_set_self (by have := HD.out.kl; omega), ← HKI.out, HHS.out]
        have HIF : Hid (k = if t.k = 9 then t.is.length - 1 - i else i) := by show _ = _; rw [if_pos h9]; exact HKI.out
        clear hk hs hcA hoc hold hlen
        go_upto_region 9 with fail
        refine heldStart (S := fun wy => Kp (fun q => q = bK) wr wy) (by kernel_rfl) ?_
        have hS : Kp (fun q => q = bK) wr wr.drew := (Kp.refl _ wr).drew
        refine heldTake 0 _ rfl (by kernel_rfl) (by kernel_rfl) (by kernel_rfl) (fun _ _ _ h => h) rfl hS (fun wy hy => by first | (go_simp; done) | (go_simp; rfl) | rfl) ?_
        (try simp only [Act.put]); (try simp only [List.setIfInBounds_toArray, List.set_cons_zero, List.set_cons_succ])
        refine heldTake 1 _ rfl (by kernel_rfl) (by kernel_rfl) (by kernel_rfl) (fun _ _ _ h => h) rfl hS (fun wy hy => by have h0 := HG1.out wy hy; first | (go_simp; done) | (go_simp; rfl) | rfl) ?_
        (try simp only [Act.put]); (try simp only [List.setIfInBounds_toArray, List.set_cons_zero, List.set_cons_succ])
        refine heldTake 2 _ rfl (by kernel_rfl) (by kernel_rfl) (by kernel_rfl) (fun _ _ _ h => h) rfl hS (fun wy hy => by first | (go_simp; done) | (go_simp; rfl) | rfl) ?_
        (try simp only [Act.put]); (try simp only [List.setIfInBounds_toArray, List.set_cons_zero, List.set_cons_succ])
        refine heldTake 3 _ rfl (by kernel_rfl) (by kernel_rfl) (by kernel_rfl) (fun _ _ _ h => h) rfl hS (fun wy hy => by first | (go_simp; done) | (go_simp; rfl) | rfl) ?_
        (try simp only [Act.put]); (try simp only [List.setIfInBounds_toArray, List.set_cons_zero, List.set_cons_succ])
        refine heldTake 4 _ rfl (by kernel_rfl) (by kernel_rfl) (by kernel_rfl) (fun _ _ _ h => h) rfl hS (fun wy hy => by have h0 := HG2.out wy hy; first | (go_simp; done) | (go_simp; rfl) | rfl) ?_
        (try simp only [Act.put]); (try simp only [List.setIfInBounds_toArray, List.set_cons_zero, List.set_cons_succ])
        refine heldTake 5 _ rfl (by kernel_rfl) (by kernel_rfl) (by kernel_rfl) (fun _ _ _ h => h) rfl hS (fun wy hy => by first | (go_simp; done) | (go_simp; rfl) | rfl) ?_
        (try simp only [Act.put]); (try simp only [List.setIfInBounds_toArray, List.set_cons_zero, List.set_cons_succ])
        refine heldTake 6 _ rfl (by kernel_rfl) (by kernel_rfl) (by kernel_rfl) (fun _ _ _ h => h) rfl hS (fun wy hy => by first | (go_simp; done) | (go_simp; rfl) | rfl) ?_
        (try simp only [Act.put]); (try simp only [List.setIfInBounds_toArray, List.set_cons_zero, List.set_cons_succ])
        refine heldTake 7 _ rfl (by kernel_rfl) (by kernel_rfl) (by kernel_rfl) (fun _ _ _ h => h) rfl hS (fun wy hy => by have h0 := HG3.out wy hy; first | (go_simp; done) | (go_simp; rfl) | rfl) ?_
        (try simp only [Act.put]); (try simp only [List.setIfInBounds_toArray, List.set_cons_zero, List.set_cons_succ])
        refine heldTake 8 _ rfl (by kernel_rfl) (by kernel_rfl) (by kernel_rfl) (fun _ _ _ h => h) rfl hS (fun wy hy => by first | (go_simp; done) | (go_simp; rfl) | rfl) ?_
        (try simp only [Act.put]); (try simp only [List.setIfInBounds_toArray, List.set_cons_zero, List.set_cons_succ])
        refine heldStep 9 rfl (by kernel_rfl) (fun K hK => ?_)
        go_simp
        refine (Hid.out hK) _ _ ((Kp.refl (fun q => q = bK) wr).setCell ⟨bK, i, none⟩ (.string s) (fun _ => rfl)).drew (fun hS2 => ?_)
        clear hK K hS hS2
        refine heldDone (by kernel_rfl) ?_
        go_wp2_with fail
        go_meet
        case rel => exact ⟨k, kk.set i s, rfl, HKL.out, HIF, HFIN, fun _ => HFK2.out⟩
      · as_aux_lemma =>
        have g9 : (t.k == 9) = false := beq_eq_false_iff_ne.2 h9
        have HN9 := hide h9
        clear h9
        go_wp2_with fail
        go_meet
        case rel => exact ⟨i, kk, rfl, hlt, by show _ = _; rw [if_neg HN9.out], HD, fun e => absurd e HN9.out⟩
    case rest =>
    obtain ⟨k, kk2, rfl, hkl2, HKE, HD2, HKY⟩ := hcut
    clear HD c0
    obtain ⟨bI, capX2, curI, hvI, hgI, hcz, hcl⟩ := own_some7 HD2.out.io (by omega)
    have HCUR := hide hgI
    have HVI := hide hvI
    rw [hvI] at HD2 HCV
    obtain ⟨bA, oA, rfl, hcA⟩ := HFI.out.resolve_left (fun h => by rw [h] at hlt; simp at hlt)
    obtain ⟨u, hu⟩ : ∃ u, t.is[k]? = some u := ⟨_, List.getElem?_eq_getElem hkl2⟩
    obtain ⟨cu, hcu, hcc⟩ := hcA k u hu
    have HHU := hide hu
    have HTU := hide hcu
    have HCU := hide hcc
    have HSU2 := hide hcu.size13
    have HIU := hide (HIH.out u (List.mem_of_getElem? hu))
    have HMU := hide (HMM.out u (List.mem_of_getElem? hu))
    have HKU : Hid (Trk u) := HTK.out.i u (List.mem_of_getElem? hu)
    have H12d : Hid (c[12]? = some (.slice (some ⟨bI, 0, none⟩) t.is.length capX2)) := by show _ = _; rw [HCV.out]; rfl
    have HG1 : Hid (∀ wy, Kp (fun q => q = bI) wc wy → wy.cell? ⟨g, 12, none⟩ = some (.slice (some ⟨bI, 0, none⟩) t.is.length capX2)) := fun wy hy => hy.cell (blk_cell (j := 12) (cur := c) (by rw [HCV.out]; exact HD2.out.x) H12d.out) (by have := HD2.out.ig bI rfl; show ¬ g = bI; omega)
    have HG2 : Hid (∀ wy, Kp (fun q => q = bI) wc wy → wy.cell? ⟨w.heap.size, 12, none⟩ = some (.slice (some ⟨bA, oA, none⟩) t.is.length capI)) := fun wy hy => hy.cell (blk_cell (j := 12) HD2.out.a H12.out) (by have := (HD2.out.io.lt bI rfl).1; show ¬ w.heap.size = bI; omega)
    have HG3 : Hid (∀ wy, Kp (fun q => q = bI) wc wy → ∀ j x, cu[j]? = some x → wy.cell? ⟨bA, oA + k * 13 + j, none⟩ = some x) := fun wy hy j x hx => hy.cell (keep_below HD2.out.b _ _ (HCU.out j x hx)) (by have h1 := (HD2.out.io.lt bI rfl).1; have h2 := cell_lt6 (HCU.out j x hx); simp only at h2; show ¬ bA = bI; omega)
    have gk : (k : Int) < (t.is.length : Int) := by omega
    have HCZ : Hid (i * 13 + 13 ≤ curI.size) := by show _ ≤ _; rw [hcz]; omega
    clear hcA hu hcu hcc hgI hcz hcl hvI
    go_wp2_with fail
    refine heldStart (S := fun wy => Kp (fun q => q = bI) wc wy) (by kernel_rfl) ?_
    have hS : Kp (fun q => q = bI) wc wc.drew := (Kp.refl _ wc).drew
    have HBD0 : Hid (Below wc.heap.size wc wc.drew) := (Below.refl _ _).drew
    refine heldTake 0 _ rfl (by kernel_rfl) (by kernel_rfl) (by kernel_rfl) (fun _ _ _ h => h) rfl hS (fun wy hy => by first | (go_simp; done) | (go_simp; rfl) | rfl) ?_
    (try simp only [Act.put]); (try simp only [List.setIfInBounds_toArray, List.set_cons_zero, List.set_cons_succ])
    refine heldTake 1 _ rfl (by kernel_rfl) (by kernel_rfl) (by kernel_rfl) (fun _ _ _ h => h) rfl hS (fun wy hy => by have h0 := HG1.out wy hy; first | (go_simp; done) | (go_simp; rfl) | rfl) ?_
    (try simp only [Act.put]); (try simp only [List.setIfInBounds_toArray, List.set_cons_zero, List.set_cons_succ])
    refine heldTake 2 _ rfl (by kernel_rfl) (by kernel_rfl) (by kernel_rfl) (fun _ _ _ h => h) rfl hS (fun wy hy => by first | (go_simp; done) | (go_simp; rfl) | rfl) ?_
    (try simp only [Act.put]); (try simp only [List.setIfInBounds_toArray, List.set_cons_zero, List.set_cons_succ])
    refine heldTake 3 _ rfl (by kernel_rfl) (by kernel_rfl) (by kernel_rfl) (fun _ _ _ h => h) rfl hS (fun wy hy => by first | (go_simp; done) | (go_simp; rfl) | rfl) ?_
    (try simp only [Act.put]); (try simp only [List.setIfInBounds_toArray, List.set_cons_zero, List.set_cons_succ])
    refine heldTake 4 _ rfl (by kernel_rfl) (by kernel_rfl) (by kernel_rfl) (fun _ _ _ h => h) rfl hS (fun wy hy => by have h0 := HG2.out wy hy; first | (go_simp; done) | (go_simp; rfl) | rfl) ?_
    (try simp only [Act.put]); (try simp only [List.setIfInBounds_toArray, List.set_cons_zero, List.set_cons_succ])
    refine heldTake 5 _ rfl (by kernel_rfl) (by kernel_rfl) (by kernel_rfl) (fun _ _ _ h => h) rfl hS (fun wy hy => by first | (go_simp; done) | (go_simp; rfl) | rfl) ?_
    (try simp only [Act.put]); (try simp only [List.setIfInBounds_toArray, List.set_cons_zero, List.set_cons_succ])
    refine heldTake 6 _ rfl (by kernel_rfl) (by kernel_rfl) (by kernel_rfl) (fun _ _ _ h => h) rfl hS (fun wy hy => by first | (go_simp; done) | (go_simp; rfl) | rfl) ?_
    (try simp only [Act.put]); (try simp only [List.setIfInBounds_toArray, List.set_cons_zero, List.set_cons_succ])
    refine heldTake 7 _ rfl (by kernel_rfl) (by kernel_rfl) (by kernel_rfl) (fun _ _ _ h => h) rfl hS (fun wy hy => exec_valAt (g := bA) (off := oA + k * 13) (cs := cu) rfl rfl HSU2.out (HG3.out wy hy)) ?_
    (try simp only [Act.put]); (try simp only [List.setIfInBounds_toArray, List.set_cons_zero, List.set_cons_succ])
    refine heldStep 8 rfl (by kernel_rfl) (fun K hK => ?_)
    go_simp
    refine (HIU.out _ cu (HTU.out.move (keep_below (HD2.out.b.trans (HBD0.out.mono HD2.out.b.size)))) HMU.out HKU.out).mono ?_
    rintro e wn ⟨c5, rfl, t5, htr, hti, hbn⟩
    have HTR := hide htr
    have HBN : Hid (Below wc.heap.size wc wn) := HBD0.out.trans (hbn.mono HBD0.out.size)
    have HTIS : Hid (Tis wn (fun q => q ≤ g) t5 c5) := hti.mono (fun q e => by have h1 := blk_lt HD2.out.x; have h2 := HBD0.out.size; omega)
    refine (Hid.out hK) _ _ (Kp.of_below HBN.out) (fun hS2 => ?_)
    clear hK K hS
    have hS := hS2
    clear hS2
    (try simp only [Act.put]); (try simp only [List.setIfInBounds_toArray, List.set_cons_zero, List.set_cons_succ])
    clear hbn hti htr
    refine heldTake 9 _ rfl (by kernel_rfl) (by kernel_rfl) (by kernel_rfl) (fun _ _ _ h => h) rfl hS (fun wy hy => by first | (go_simp; done) | (go_simp; rfl) | rfl) ?_
    (try simp only [Act.put]); (try simp only [List.setIfInBounds_toArray, List.set_cons_zero, List.set_cons_succ])
    have HD5 := hide (HD2.out.next HBN.out)
    have HCU5 : Hid (wn.heap[bI]? = some (.cells curI 65 (0, 0))) := (HBN.out.block _ (blk_lt HCUR.out)).trans HCUR.out
    have HS5 := hide HTIS.out.tin.size13
    have HON5 : Hid (∀ v ∈ c5.toList, v.oneCell' = true) := fun x hx => by have h := HTIS.out.tin.all1; rw [Array.all_eq_true_iff_forall_mem] at h; exact h x (by simpa using hx)
    have HIN5 : Hid ((Tryz.prog.info? 65).map (·.size) = some c5.size) := by show _ = _; rw [HS5.out]; exact infoV
    have HFIN : Hid (Trd w (wn.setRow bI (splice curI.toList (i * 13) c5.toList).toArray) t cs g vy vk (.slice (some ⟨bI, 0, none⟩) t.is.length capX2) kk2 (ms ++ [t5]) (L.set i c5)) := by
      have h := HD5.out.item t5 c5 HTIS.out HS5.out HCU5.out (by rw [← HI.out]; exact hlt) (by rw [← HI.out]; exact HKY.out) (fun x hx => by
        rw [← HI.out, ← HKE.out, HHU.out] at hx
        injection hx with hx
        rw [← hx]
        exact HTR.out)
      rw [← HI.out] at h
      exact h
    refine heldStep 10 rfl (by kernel_rfl) (fun K hK => ?_)
    refine step_storePart8 rfl rfl bI (i * 13) curI c5 65 rfl rfl HCU5.out HIN5.out (by rw [HS5.out]; exact HCZ.out) HON5.out ?_
    refine (Hid.out hK) _ _ ((Kp.of_below HBN.out).trans (row_kp wn bI _) (fun _ _ e => e)) (fun hS2 => ?_)
    clear hK K hS hS2
    (try simp only [Act.put]); (try simp only [List.setIfInBounds_toArray, List.set_cons_zero, List.set_cons_succ])
    refine heldDone (by kernel_rfl) ?_
    go_wp2_with fail
    exact ⟨⟨kk2, ms ++ [t5], L.set i c5, by rw [List.length_append, List.length_singleton, ← HI.out]; simp, by rw [List.length_append, List.length_singleton, ← HI.out]; omega, by rw [HVI.out]; exact HFIN⟩, by simp [intOf]; omega⟩
theorem turned7_any (t : Tv) : TurC7 t := by
  have h : ∀ N, ∀ t : Tv, SizeOf.sizeOf t = N → TurC7 t := by
    intro N
    induction N using Nat.strongRecOn with
    | _ N ih => exact fun t hN => turned_step7 t (fun u hu => ih _ (by rw [← hN]; exact Tv.is_lt hu) u rfl)
  exact h _ t rfl
end
section
open Go.RowKit Go
/-! ### A form is as long, whatever the entries' order -/
theorem tfm_of7 (t : Tv) : tfm t = (if t.k = 1 then [246] else if t.k = 2 then [if t.f = true then 245 else 244] else if t.k = 3 then hl (if t.g = true then 1 else 0) t.n else if t.k = 4 then 251 :: be 8 t.b else if t.k = 5 then kfm t.s else if t.k = 6 then hl 2 t.y.length ++ t.y else if t.k = 7 then hl 6 42 ++ (hl 2 (1 + (lbytes t.l).length) ++ 0 :: lbytes t.l) else if t.k = 8 then hl 4 t.is.length ++ tfmL t.is else if t.k = 9 then hl 5 t.is.length ++ tfmK t.ks t.is else []) := by
  cases t
  rw [tfm]
  rfl
theorem tfmL_sum : ∀ l : List Tv, (tfmL l).length = (l.map fun t => (tfm t).length).sum
  | [] => by simp [tfmL]
  | t :: r => by rw [tfmL, List.length_append, tfmL_sum r]; simp
theorem tfmK_sum : ∀ (ks : List ByteArray) (is : List Tv), ks.length = is.length → (tfmK ks is).length = (ks.map fun k => (kfm k).length).sum + (is.map fun t => (tfm t).length).sum
  | [], [], _ => by simp [tfmK]
  | [], _ :: _, h => by simp at h
  | _ :: _, [], h => by simp at h
  | k :: ks, t :: r, h => by rw [tfmK, List.length_append, List.length_append, tfmK_sum ks r (by simpa using h)]; simp; omega
theorem trn_flen {t w : Tv} (h : Trn t w) : Trk t → (tfm w).length = (tfm t).length := by
  induction h with
  | rest t w h9 hT hk hn hi ih =>
    intro ht
    have e : (tfmL w.is).length = (tfmL t.is).length := by
      rw [tfmL_sum, tfmL_sum]
      congr 1
      refine List.ext_getElem? fun i => ?_
      rw [List.getElem?_map, List.getElem?_map]
      by_cases hl : i < t.is.length
      · have e1 := List.getElem?_eq_getElem hl
        have e2 := List.getElem?_eq_getElem (show i < w.is.length by omega)
        rw [e1, e2, Option.map_some, Option.map_some, ih i _ _ e1 e2 (ht.i _ (List.getElem_mem hl))]
      · rw [List.getElem?_eq_none (by omega), List.getElem?_eq_none (by omega)]
    rw [tfm_of7 w, tfm_of7 t, hT.k, hT.f, hT.g, hT.n, hT.b, hT.s, hT.y, hT.l]
    by_cases h8 : t.k = 8
    · rw [h8]
      simp [hn, e]
    · rw [if_neg h8, if_neg h9, if_neg h8, if_neg h9]
  | map t w ps h9 hT hp hk hn hi ih =>
    intro ht
    obtain ⟨hlen, _⟩ := ht.m h9
    have hpl := perm_len hp
    have e : (w.is.map fun t => (tfm t).length).sum = (t.is.map fun t => (tfm t).length).sum := by
      rw [← pick_nat (l := t.is.map fun t => (tfm t).length) (ps := ps) (by rw [List.length_map]; exact hp)]
      congr 1
      refine List.ext_getElem? fun i => ?_
      rw [List.getElem?_map, List.getElem?_map]
      by_cases hl : i < ps.length
      · have e0 := List.getElem?_eq_getElem hl
        have hlt := perm_lt hp e0
        have e1 := List.getElem?_eq_getElem hlt
        have e2 := List.getElem?_eq_getElem (show i < w.is.length by omega)
        rw [e0, e2, Option.map_some, Option.map_some, ih i _ _ _ e0 e1 e2 (ht.i _ (List.getElem_mem hlt))]
        simp [List.getD, hlt]
      · rw [List.getElem?_eq_none (by omega), List.getElem?_eq_none (by omega)]
        rfl
    have hkp := pickS_perm hlen hp
    rw [← hk] at hkp
    have e2 : (w.ks.map fun k => (kfm k).length).sum = (t.ks.map fun k => (kfm k).length).sum := (hkp.map _).sum_nat
    have e3 := hkp.length_eq
    rw [tfm_of7 w, tfm_of7 t, hT.k, h9]
    show (hl 5 w.is.length ++ tfmK w.ks w.is).length = (hl 5 t.is.length ++ tfmK t.ks t.is).length
    rw [hn, List.length_append, List.length_append, tfmK_sum _ _ (by omega), tfmK_sum _ _ hlen, e, e2]

/-! ### The list of all trees -/
/-- A list of these trees. -/
def tls (tr : List Tv) : Tv := .mk 8 false false 0 0 ⟨#[]⟩ [] ⟨0, 0, 0, []⟩ [] tr
theorem forms_ex : ∀ {tr : List Tv} {F : List (List Nat)}, tr.length = F.length → (∀ (j : Nat) (u : Tv) (f : List Nat), tr[j]? = some u → F[j]? = some f → ∃ s, SrtR u s ∧ f = tfm s) → ∃ js : List Tv, js.length = tr.length ∧ (∀ (i : Nat) (u v : Tv), tr[i]? = some u → js[i]? = some v → SrtR u v) ∧ tfmL js = F.flatten
  | [], [], _, _ => ⟨[], rfl, fun i u v h => by simp at h, by simp [tfmL]⟩
  | [], _ :: _, h, _ => by simp at h
  | _ :: _, [], h, _ => by simp at h
  | u :: tr, f :: F, h, hg => by
    obtain ⟨s, hs, rfl⟩ := hg 0 u f rfl rfl
    obtain ⟨js, h1, h2, h3⟩ := forms_ex (tr := tr) (F := F) (by simpa using h) (fun j x y hx hy => hg (j + 1) x y (by simpa using hx) (by simpa using hy))
    refine ⟨s :: js, by simp [h1], fun i x y hx hy => ?_, by rw [tfmL, h3, List.flatten_cons]⟩
    cases i with
    | zero =>
      injection hx with hx
      injection hy with hy
      subst hx
      subst hy
      exact hs
    | succ i => exact h2 i x y (by simpa using hx) (by simpa using hy)
theorem muchL_le7 {N : Nat} : ∀ {l : List Tv}, (∀ u ∈ l, tmuch u ≤ N) → tmuchL l ≤ N * l.length
  | [], _ => by simp [tmuchL]
  | t :: r, h => by
    have h1 := h t (List.mem_cons_self ..)
    have h2 := muchL_le7 (l := r) (fun u hu => h u (List.mem_cons_of_mem _ hu))
    rw [tmuchL, List.length_cons, Nat.mul_succ]
    omega
/-- What stands fast of the list of all trees. -/
structure Ls7 (tr : List Tv) (F : List (List Nat)) (s : Tv) : Prop where
  c : ChkC7 (tls tr) 0
  r : SrtC7 (tls tr) s
  p : Ptr s
  q : Ptr (tls tr)
  f : tfm s = hl 4 tr.length ++ F.flatten
  n : (tfm (tls tr)).length = (tfm s).length
  l : (tfm s).length ≤ 1000000000
  y : ∀ x ∈ tfm s, x < 256
theorem Lo7.much {wp wx : World} {v4 v5 v6 : Value} {tr : List Tv} {L : List (Array Value)} {vs : List Value} {F : List (List Nat)} (h : Lo7 wp wx v4 v5 v6 tr L vs F) : tmuch (tls tr) ≤ 6000000 := by
  have h1 : tmuchL tr ≤ 20000 * tr.length := muchL_le7 fun u hu => by
    obtain ⟨j, hj⟩ := List.getElem?_of_mem hu
    have hl := (List.getElem?_eq_some_iff.1 hj).1
    exact (h.g j u _ hj (List.getElem?_eq_getElem (show j < F.length by have := h.m; omega))).2.1
  have h2 := h.k
  have e : tmuch (tls tr) = 1 + tmuchL tr := by
    rw [tmuch_eq]
    show 1 + 0 + 0 / 64 + 0 / 64 + 0 / 64 + 0 + tmuchL tr = 1 + tmuchL tr
    omega
  omega
theorem Lo7.list {wp wx : World} {v4 v5 v6 : Value} {tr : List Tv} {L : List (Array Value)} {vs : List Value} {F : List (List Nat)} (h : Lo7 wp wx v4 v5 v6 tr L vs F) (hc : chkf (tls tr) 0 = 0) : ∃ s, Ls7 tr F s := by
  obtain ⟨js, h1, h2, h3⟩ := forms_ex h.m (fun j u f hu hf => by
    obtain ⟨_, _, s, h1, _, h2⟩ := h.g j u f hu hf
    exact ⟨s, h1, h2⟩)
  have hs : SrtR (tls tr) (tls js) := srt_list h1 h2
  have hm := h.much
  have hT := chk_trk hc
  have hn := srt_trn hs hT
  have hf : tfm (tls js) = hl 4 tr.length ++ F.flatten := by
    rw [tfm_of7]
    show (hl 4 js.length ++ tfmL js) = _
    rw [h1, h3]
  have h4 := h.flat
  have h5 : (hl 4 tr.length).length ≤ 9 := by
    have := hlay_len 4 tr.length
    unfold hlay at this
    rw [if_pos (by decide)] at this
    exact this
  refine ⟨tls js, ⟨chk7_0 hm hc, srt7_ex hm hc hs, chk_ptr (trn_chk hn hc), chk_ptr hc, hf, (trn_flen hn hT).symm, by rw [hf, List.length_append]; omega, ?_⟩⟩
  intro x hx
  rw [hf] at hx
  rcases List.mem_append.1 hx with hx | hx
  · exact hl_byte 4 _ (by decide) x hx
  · obtain ⟨f, hf', hx⟩ := List.mem_flatten.1 hx
    obtain ⟨j, hj⟩ := List.getElem?_of_mem hf'
    have hl := (List.getElem?_eq_some_iff.1 hj).1
    obtain ⟨_, _, s, _, ht, rfl⟩ := h.g j _ f (List.getElem?_eq_getElem (show j < tr.length by have := h.m; omega)) hj
    exact ht.y x hx
/-- The list's cells. -/
def lcl7 (v4 : Value) : Array Value := #[.int .i64 8, .bool false, .bool false, .int .u64 0, .int .u64 0, .string ⟨#[]⟩, .slice none 0 0, .int .i64 0, .int .u64 0, .int .u64 0, .string ⟨#[]⟩, .slice none 0 0, v4]
theorem Lo7.tin {wp wx : World} {v4 v5 v6 : Value} {tr : List Tv} {L : List (Array Value)} {vs : List Value} {F : List (List Nat)} (h : Lo7 wp wx v4 v5 v6 tr L vs F) : Tin wx (tls tr) (lcl7 v4) :=
  Tin.of (t := tls tr) (vy := .slice none 0 0) (vk := .slice none 0 0) (vi := v4) (bsl7 wx) (ssl7 wx) (h.t.vsl h.b (by have := h.k; omega)) ⟨by show 0 < _; decide, by show 0 < _; decide, by show (0 : Nat) ≤ _; decide, by show (0 : Nat) ≤ _; decide, lkb7, by show (0 : Nat) ≤ _; decide⟩
end
section
open Go.RowKit Go
theorem nstr_inj7 {a b : List Nat} (ha : ∀ x ∈ a, x < 256) (hb : ∀ x ∈ b, x < 256) (h : nstr a = nstr b) : a = b := by rw [← sl_nstr ha, ← sl_nstr hb, h]
set_option maxRecDepth 1000000 in
set_option maxHeartbeats 2000000 in
/-- beginning: whether a row is the beginning of another. -/
theorem begin7_any (w : World) (va vb : Value) (xs ys : List Nat) (ha : BSl w va xs) (hb : BSl w vb ys) : Calls Tryz.prog 23 #[va, vb] w fun e w' => e = .returned (.bool (begb xs ys)) ∧ Below w.heap.size w w' := by
  have HA := hide ha
  have HB := hide hb
  have HAB := hide ha.byte
  have HBB := hide hb.byte
  obtain ⟨⟨aa, ca, rfl, hna, hza⟩, hma, hya⟩ := ha
  obtain ⟨⟨ab, cb, rfl, hnb, hzb⟩, hmb, hyb⟩ := hb
  have hcb := hnb.1
  clear hna hza hya hnb hzb hyb
  by_cases hl : xs.length ≤ ys.length
  · have g1 : (xs.length : Int) ≤ (ys.length : Int) := by omega
    have g2 : decide ((xs.length : Int) ≤ (ys.length : Int)) = true := decide_eq_true g1
    have g3 : decide (xs.length ≤ ys.length) = true := decide_eq_true hl
    have g4 : (xs.length : Int) ≤ (cb : Int) := by omega
    have HT1 : Hid (∀ wy, Below w.heap.size w wy → (convert 23 9 (.slice aa xs.length ca)).run Tryz.prog wy = .ok (.string (nstr xs)) wy) := fun wy hy => (HA.out.move (keep_below hy)).text
    have HT2 : Hid (∀ wy, Below w.heap.size w wy → (convert 23 9 (.slice ab xs.length cb)).run Tryz.prog wy = .ok (.string (nstr (ys.take xs.length))) wy) := fun wy hy => ((HB.out.take xs.length hl).move (keep_below hy)).text
    have HR : Hid (begb xs ys = decide (nstr xs = nstr (ys.take xs.length))) := by
      show _ = _
      unfold begb
      rw [g3, Bool.true_and]
      by_cases e : xs = ys.take xs.length
      · rw [decide_eq_true e, decide_eq_true (congrArg nstr e)]
      · rw [decide_eq_false e, decide_eq_false (fun h => e (nstr_inj7 HAB.out (fun x hx => HBB.out x (List.mem_of_mem_take hx)) h))]
    generalize nstr xs = sx at *
    generalize nstr (ys.take xs.length) = sy at *
    by_cases hxy : sx = sy
    · have HRT : Hid (begb xs ys = true) := by show _ = _; rw [HR.out, decide_eq_true hxy]
      subst hxy
      clear HR
      go_enter Tryz.func23, Tryz.ntmps23
      go_wp2_with fail
      refine heldStart (S := fun wy => Below w.heap.size w wy) (by kernel_rfl) ?_
      have hS : Below w.heap.size w w.drew := (Below.refl _ _).drew
      refine heldTake 0 _ rfl (by kernel_rfl) (by kernel_rfl) (by kernel_rfl) (fun _ _ _ h => h) rfl hS (fun wy hy => by first | (go_simp; done) | (go_simp; rfl) | rfl) ?_
      (try simp only [Act.put]); (try simp only [List.setIfInBounds_toArray, List.set_cons_zero, List.set_cons_succ])
      refine heldTake 1 _ rfl (by kernel_rfl) (by kernel_rfl) (by kernel_rfl) (fun _ _ _ h => h) rfl hS (fun wy hy => by first | (go_simp; done) | (go_simp; rfl) | rfl) ?_
      (try simp only [Act.put]); (try simp only [List.setIfInBounds_toArray, List.set_cons_zero, List.set_cons_succ])
      refine heldTake 2 _ rfl (by kernel_rfl) (by kernel_rfl) (by kernel_rfl) (fun _ _ _ h => h) rfl hS (fun wy hy => by first | (go_simp; done) | (go_simp; rfl) | rfl) ?_
      (try simp only [Act.put]); (try simp only [List.setIfInBounds_toArray, List.set_cons_zero, List.set_cons_succ])
      refine heldTake 3 _ rfl (by kernel_rfl) (by kernel_rfl) (by kernel_rfl) (fun _ _ _ h => h) rfl hS (fun wy hy => by first | (go_simp; done) | (go_simp; rfl) | rfl) ?_
      (try simp only [Act.put]); (try simp only [List.setIfInBounds_toArray, List.set_cons_zero, List.set_cons_succ])
      refine heldTake 4 _ rfl (by kernel_rfl) (by kernel_rfl) (by kernel_rfl) (fun _ _ _ h => h) rfl hS (fun wy hy => by first | (go_simp; done) | (go_simp; rfl) | rfl) ?_
      (try simp only [Act.put]); (try simp only [List.setIfInBounds_toArray, List.set_cons_zero, List.set_cons_succ])
      refine heldTake 5 _ rfl (by kernel_rfl) (by kernel_rfl) (by kernel_rfl) (fun _ _ _ h => h) rfl hS (fun wy hy => by first | (go_simp; done) | (go_simp; rfl) | rfl) ?_
      (try simp only [Act.put]); (try simp only [List.setIfInBounds_toArray, List.set_cons_zero, List.set_cons_succ])
      refine heldTake 6 _ rfl (by kernel_rfl) (by kernel_rfl) (by kernel_rfl) (fun _ _ _ h => h) rfl hS (fun wy hy => by first | (go_simp; done) | (go_simp; rfl) | rfl) ?_
      (try simp only [Act.put]); (try simp only [List.setIfInBounds_toArray, List.set_cons_zero, List.set_cons_succ])
      refine heldTake 7 _ rfl (by kernel_rfl) (by kernel_rfl) (by kernel_rfl) (fun _ _ _ h => h) rfl hS (fun wy hy => by have h0 := HT1.out wy hy; first | (go_simp; done) | (go_simp; rfl) | rfl) ?_
      (try simp only [Act.put]); (try simp only [List.setIfInBounds_toArray, List.set_cons_zero, List.set_cons_succ])
      refine heldTake 8 _ rfl (by kernel_rfl) (by kernel_rfl) (by kernel_rfl) (fun _ _ _ h => h) rfl hS (fun wy hy => by first | (go_simp; done) | (go_simp; rfl) | rfl) ?_
      (try simp only [Act.put]); (try simp only [List.setIfInBounds_toArray, List.set_cons_zero, List.set_cons_succ])
      refine heldTake 9 _ rfl (by kernel_rfl) (by kernel_rfl) (by kernel_rfl) (fun _ _ _ h => h) rfl hS (fun wy hy => by first | (go_simp; done) | (go_simp; rfl) | rfl) ?_
      (try simp only [Act.put]); (try simp only [List.setIfInBounds_toArray, List.set_cons_zero, List.set_cons_succ])
      refine heldTake 10 _ rfl (by kernel_rfl) (by kernel_rfl) (by kernel_rfl) (fun _ _ _ h => h) rfl hS (fun wy hy => by first | (go_simp; done) | (go_simp; rfl) | rfl) ?_
      (try simp only [Act.put]); (try simp only [List.setIfInBounds_toArray, List.set_cons_zero, List.set_cons_succ])
      refine heldTake 11 _ rfl (by kernel_rfl) (by kernel_rfl) (by kernel_rfl) (fun _ _ _ h => h) rfl hS (fun wy hy => by first | (go_simp; done) | (go_simp; rfl) | rfl) ?_
      (try simp only [Act.put]); (try simp only [List.setIfInBounds_toArray, List.set_cons_zero, List.set_cons_succ])
      refine heldTake 12 _ rfl (by kernel_rfl) (by kernel_rfl) (by kernel_rfl) (fun _ _ _ h => h) rfl hS (fun wy hy => by have h0 := HT2.out wy hy; first | (go_simp; done) | (go_simp; rfl) | rfl) ?_
      (try simp only [Act.put]); (try simp only [List.setIfInBounds_toArray, List.set_cons_zero, List.set_cons_succ])
      refine heldTake 13 _ rfl (by kernel_rfl) (by kernel_rfl) (by kernel_rfl) (fun _ _ _ h => h) rfl hS (fun wy hy => by first | (go_simp; done) | (go_simp; rfl) | rfl) ?_
      (try simp only [Act.put]); (try simp only [List.setIfInBounds_toArray, List.set_cons_zero, List.set_cons_succ])
      refine heldTake 14 _ rfl (by kernel_rfl) (by kernel_rfl) (by kernel_rfl) (fun _ _ _ h => h) rfl hS (fun wy hy => by first | (go_simp; done) | (go_simp; rfl) | rfl) ?_
      (try simp only [Act.put]); (try simp only [List.setIfInBounds_toArray, List.set_cons_zero, List.set_cons_succ])
      refine heldTake 15 _ rfl (by kernel_rfl) (by kernel_rfl) (by kernel_rfl) (fun _ _ _ h => h) rfl hS (fun wy hy => by first | (go_simp; done) | (go_simp; rfl) | rfl) ?_
      (try simp only [Act.put]); (try simp only [List.setIfInBounds_toArray, List.set_cons_zero, List.set_cons_succ])
      refine heldDone (by kernel_rfl) ?_
      go_wp2_with fail
      go_ret
      exact ⟨by rw [HRT.out]; rfl, hS⟩
    · have HRT : Hid (begb xs ys = false) := by show _ = _; rw [HR.out, decide_eq_false hxy]
      have gs : (sx.toList == sy.toList) = false := by
        have h := str_bne sx sy
        rw [bne, decide_eq_false hxy] at h
        simpa using h
      clear HR
      go_enter Tryz.func23, Tryz.ntmps23
      go_wp2_with fail
      refine heldStart (S := fun wy => Below w.heap.size w wy) (by kernel_rfl) ?_
      have hS : Below w.heap.size w w.drew := (Below.refl _ _).drew
      refine heldTake 0 _ rfl (by kernel_rfl) (by kernel_rfl) (by kernel_rfl) (fun _ _ _ h => h) rfl hS (fun wy hy => by first | (go_simp; done) | (go_simp; rfl) | rfl) ?_
      (try simp only [Act.put]); (try simp only [List.setIfInBounds_toArray, List.set_cons_zero, List.set_cons_succ])
      refine heldTake 1 _ rfl (by kernel_rfl) (by kernel_rfl) (by kernel_rfl) (fun _ _ _ h => h) rfl hS (fun wy hy => by first | (go_simp; done) | (go_simp; rfl) | rfl) ?_
      (try simp only [Act.put]); (try simp only [List.setIfInBounds_toArray, List.set_cons_zero, List.set_cons_succ])
      refine heldTake 2 _ rfl (by kernel_rfl) (by kernel_rfl) (by kernel_rfl) (fun _ _ _ h => h) rfl hS (fun wy hy => by first | (go_simp; done) | (go_simp; rfl) | rfl) ?_
      (try simp only [Act.put]); (try simp only [List.setIfInBounds_toArray, List.set_cons_zero, List.set_cons_succ])
      refine heldTake 3 _ rfl (by kernel_rfl) (by kernel_rfl) (by kernel_rfl) (fun _ _ _ h => h) rfl hS (fun wy hy => by first | (go_simp; done) | (go_simp; rfl) | rfl) ?_
      (try simp only [Act.put]); (try simp only [List.setIfInBounds_toArray, List.set_cons_zero, List.set_cons_succ])
      refine heldTake 4 _ rfl (by kernel_rfl) (by kernel_rfl) (by kernel_rfl) (fun _ _ _ h => h) rfl hS (fun wy hy => by first | (go_simp; done) | (go_simp; rfl) | rfl) ?_
      (try simp only [Act.put]); (try simp only [List.setIfInBounds_toArray, List.set_cons_zero, List.set_cons_succ])
      refine heldTake 5 _ rfl (by kernel_rfl) (by kernel_rfl) (by kernel_rfl) (fun _ _ _ h => h) rfl hS (fun wy hy => by first | (go_simp; done) | (go_simp; rfl) | rfl) ?_
      (try simp only [Act.put]); (try simp only [List.setIfInBounds_toArray, List.set_cons_zero, List.set_cons_succ])
      refine heldTake 6 _ rfl (by kernel_rfl) (by kernel_rfl) (by kernel_rfl) (fun _ _ _ h => h) rfl hS (fun wy hy => by first | (go_simp; done) | (go_simp; rfl) | rfl) ?_
      (try simp only [Act.put]); (try simp only [List.setIfInBounds_toArray, List.set_cons_zero, List.set_cons_succ])
      refine heldTake 7 _ rfl (by kernel_rfl) (by kernel_rfl) (by kernel_rfl) (fun _ _ _ h => h) rfl hS (fun wy hy => by have h0 := HT1.out wy hy; first | (go_simp; done) | (go_simp; rfl) | rfl) ?_
      (try simp only [Act.put]); (try simp only [List.setIfInBounds_toArray, List.set_cons_zero, List.set_cons_succ])
      refine heldTake 8 _ rfl (by kernel_rfl) (by kernel_rfl) (by kernel_rfl) (fun _ _ _ h => h) rfl hS (fun wy hy => by first | (go_simp; done) | (go_simp; rfl) | rfl) ?_
      (try simp only [Act.put]); (try simp only [List.setIfInBounds_toArray, List.set_cons_zero, List.set_cons_succ])
      refine heldTake 9 _ rfl (by kernel_rfl) (by kernel_rfl) (by kernel_rfl) (fun _ _ _ h => h) rfl hS (fun wy hy => by first | (go_simp; done) | (go_simp; rfl) | rfl) ?_
      (try simp only [Act.put]); (try simp only [List.setIfInBounds_toArray, List.set_cons_zero, List.set_cons_succ])
      refine heldTake 10 _ rfl (by kernel_rfl) (by kernel_rfl) (by kernel_rfl) (fun _ _ _ h => h) rfl hS (fun wy hy => by first | (go_simp; done) | (go_simp; rfl) | rfl) ?_
      (try simp only [Act.put]); (try simp only [List.setIfInBounds_toArray, List.set_cons_zero, List.set_cons_succ])
      refine heldTake 11 _ rfl (by kernel_rfl) (by kernel_rfl) (by kernel_rfl) (fun _ _ _ h => h) rfl hS (fun wy hy => by first | (go_simp; done) | (go_simp; rfl) | rfl) ?_
      (try simp only [Act.put]); (try simp only [List.setIfInBounds_toArray, List.set_cons_zero, List.set_cons_succ])
      refine heldTake 12 _ rfl (by kernel_rfl) (by kernel_rfl) (by kernel_rfl) (fun _ _ _ h => h) rfl hS (fun wy hy => by have h0 := HT2.out wy hy; first | (go_simp; done) | (go_simp; rfl) | rfl) ?_
      (try simp only [Act.put]); (try simp only [List.setIfInBounds_toArray, List.set_cons_zero, List.set_cons_succ])
      refine heldTake 13 _ rfl (by kernel_rfl) (by kernel_rfl) (by kernel_rfl) (fun _ _ _ h => h) rfl hS (fun wy hy => by first | (go_simp; done) | (go_simp; rfl) | rfl) ?_
      (try simp only [Act.put]); (try simp only [List.setIfInBounds_toArray, List.set_cons_zero, List.set_cons_succ])
      refine heldTake 14 _ rfl (by kernel_rfl) (by kernel_rfl) (by kernel_rfl) (fun _ _ _ h => h) rfl hS (fun wy hy => by first | (go_simp; done) | (go_simp; rfl) | rfl) ?_
      (try simp only [Act.put]); (try simp only [List.setIfInBounds_toArray, List.set_cons_zero, List.set_cons_succ])
      refine heldTake 15 _ rfl (by kernel_rfl) (by kernel_rfl) (by kernel_rfl) (fun _ _ _ h => h) rfl hS (fun wy hy => by first | (go_simp; done) | (go_simp; rfl) | rfl) ?_
      (try simp only [Act.put]); (try simp only [List.setIfInBounds_toArray, List.set_cons_zero, List.set_cons_succ])
      refine heldDone (by kernel_rfl) ?_
      go_wp2_with fail
      go_ret
      exact ⟨by rw [HRT.out]; rfl, hS⟩
  · have HRT : Hid (begb xs ys = false) := by show _ = _; unfold begb; rw [decide_eq_false hl, Bool.false_and]
    have g1 : ¬ (xs.length : Int) ≤ (ys.length : Int) := by omega
    have g2 : decide ((xs.length : Int) ≤ (ys.length : Int)) = false := decide_eq_false g1
    have g3 : decide (xs.length ≤ ys.length) = false := decide_eq_false hl
    clear hl
    go_enter Tryz.func23, Tryz.ntmps23
    go_wp2_with fail
    go_quiet (fail)
    go_wp2_with fail
    go_ret
    exact ⟨by rw [HRT.out]; rfl, by first | exact below_drewN (Below.refl _ _) _ | exact below_drewN _ _⟩
end
section
open Go.RowKit Go
/-- An operation in a region that only reads, by what it tells. -/
theorem qstep_exec {C : World → Prop} {ops : Array Oper} {o : Oper} {a : Act} {K : Act → Prop} (hgd : Region.wanted o (yielded ops a.tmps) = true) (v : Value) (hx : ∀ w, C w → (execOp a.eval o).run Tryz.prog w = .ok (.value v) w)
    (h : K (a.put o.dst v)) : if Region.wanted o (yielded ops a.tmps) = true then o.quiet Tryz.prog a C K else K (a.put o.dst undef) := by
  rw [if_pos hgd]
  refine ⟨v, fun w hC => ?_, h⟩
  unfold Oper.quietAt
  rw [hx w hC]
  exact ⟨rfl, rfl⟩
/-- The forms in their row. -/
theorem Lo7.forms {wp wx : World} {v4 v5 v6 : Value} {tr : List Tv} {L : List (Array Value)} {vs : List Value} {F : List (List Nat)} (h : Lo7 wp wx v4 v5 v6 tr L vs F) : ∃ a c, v5 = .slice a tr.length c ∧ (tr = [] ∨ ∃ b off, a = some ⟨b, off, none⟩ ∧ ∀ (j : Nat) (f : List Nat), F[j]? = some f → ∃ af cf, wx.cell? ⟨b, off + j, none⟩ = some (.slice af f.length cf) ∧ BSl wx (.slice af f.length cf) f) := by
  have hn := h.n
  have hm := h.m
  rcases id h.o.2 with ⟨e, h0⟩ | ⟨g, cap, cur, e, _⟩
  · subst e
    have e2 : tr = [] := List.length_eq_zero_iff.1 (by omega)
    subst e2
    exact ⟨none, 0, rfl, .inl rfl⟩
  · subst e
    have ho := h.o
    refine ⟨_, cap, by rw [hn, ← hm], .inr ⟨g, 0, rfl, fun j f hf => ?_⟩⟩
    have hl := (List.getElem?_eq_some_iff.1 hf).1
    have ev : vs[j]? = some (vs[j]'(by omega)) := List.getElem?_eq_getElem (by omega)
    have hc := (own_cell ho ev).1
    rw [Nat.zero_add]
    obtain ⟨_, _, s, _, ht, hfs⟩ := h.g j _ f (List.getElem?_eq_getElem (show j < tr.length by omega)) hf
    have hb : BSl wx (vs[j]'(by omega)) f := BSl.own (h.f j _ f ev hf).1 (by rw [hfs]; exact ht.y)
    obtain ⟨⟨a, c, e, h1⟩, h2⟩ := id hb
    rw [e] at hc hb
    exact ⟨a, c, hc, hb⟩
/-- Two trees: equal just if their forms are, and else none begins the other. -/
theorem Lo7.two {wp wx : World} {v4 v5 v6 : Value} {tr : List Tv} {L : List (Array Value)} {vs : List Value} {F : List (List Nat)} (h : Lo7 wp wx v4 v5 v6 tr L vs F) {i k : Nat} {u v : Tv} {f g : List Nat} (hu : tr[i]? = some u) (hv : tr[k]? = some v) (hf : F[i]? = some f) (hg : F[k]? = some g) :
    (tmuch u ≤ 20000 ∧ tmuch v ≤ 20000) ∧ ((eqf u v = true ∧ f = g) ∨ (eqf u v = false ∧ f ≠ g ∧ begb f g = false)) := by
  obtain ⟨c1, m1, s1, r1, t1, e1⟩ := h.g i u f hu hf
  obtain ⟨c2, m2, s2, r2, t2, e2⟩ := h.g k v g hv hg
  have q1 := chk_trk c1
  have q2 := chk_trk c2
  have hx := (eqf_teq u v q1 q2).trans (teq_form t1 t2 r1 r2 q1 q2)
  rw [← e1, ← e2] at hx
  refine ⟨⟨m1, m2⟩, ?_⟩
  by_cases e : f = g
  · exact .inl ⟨hx.2 e, e⟩
  · refine .inr ⟨?_, e, ?_⟩
    · cases hq : eqf u v with
      | false => rfl
      | true => exact absurd (hx.1 hq) e
    · rw [e1, e2]
      exact form_beg t1 t2 (by rw [← e1, ← e2]; exact e)
end
section
open Go.RowKit Go

end
section
open Go.RowKit Go

end
section
open Go.RowKit Go
/-- append of bytes, and where they lie. -/
theorem append_bsl_at {ops : Array Oper} {rest : List Oper} {o : Oper} {a : Act} {Q : Exit → Act → World → Prop} {w : World} (hgd : o.guard = none) (s x : Operand)
    (ho : o.op = .call { callee := .builtin .append, args := #[s, x], argTypes := #[23, 23] }) (B : Nat) (v : Value) (n : Nat) (ds : List Nat) (hs : a.eval s = v) (hown : w.ownsRow B 5 1 v n (bv ds))
    (u : Value) (xs : List Nat) (hx : a.eval x = u) (hsl : BSl w u xs) (hlen : n + xs.length ≤ 140737488355328) (hbase : B ≤ w.heap.size)
    (h : ∀ v' w', w'.ownsRow B 5 1 v' (n + xs.length) (bv (ds ++ xs)) → w.grownBy w' v.ownBlock → (v'.ownBlock = v.ownBlock ∨ v'.ownBlock = some w.heap.size) → wpList Tryz.prog ops Q rest (a.put o.dst v') w') : wpList Tryz.prog ops Q (o :: rest) a w := by
  obtain ⟨i5, hi, hz0, hz1, hz2⟩ := info5_ex
  obtain ⟨⟨ad, cap, rfl, hn, hc⟩, hmax, hb⟩ := id hsl
  cases ad with
  | none =>
    rcases hc with rfl | ⟨_, _, e, _⟩
    · have := hn.2 rfl
      subst this
      refine wpList_append_own_none hgd s x 23 ho B 5 i5 1 Tryz.underlying23 hi v n (bv ds) hs hown hx (h v w ?_ ⟨rfl, rfl, rfl, Nat.le_refl _, fun _ _ _ => rfl⟩ (.inl rfl))
      simpa using hown
    · cases e
  | some ad =>
    refine wpList_append_own_at w hgd s x 23 ho B 5 i5 (.int .u8 0) 1 1 Tryz.underlying23 hi hz0 hz1 hz2 rfl (by decide) v n (bv ds) hs hown ad xs.length cap (bv xs) hx (by simp [bv]) hsl.src.2 (bv_one xs) (by unfold maxLen; omega) (by omega) hbase fun v' w' h1 h2 _ h4 => ?_
    exact h v' w' (by rw [bv_app]; exact h1) h2 h4
end
end Go.Proofs.YtjlknnpgngaooaaGreatDoor
