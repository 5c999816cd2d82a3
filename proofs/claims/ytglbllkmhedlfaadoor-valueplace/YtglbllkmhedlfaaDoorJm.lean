import Derived.Test.YtglbllkmhedlfaaDoorJk
import Derived.Test.YtglbllkmhedlfaaDoorJd
import Derived.Test.YtglbllkmhedlfaaDoorJi
import Derived.Test.YtglbllkmhedlfaaDoorJl
import Derived.Test.YtglbllkmhedlfaaDoorJb
namespace Go.Proofs.YtglbllkmhedlfaaDoor
section
open Go.RowKit Go
/-- Seat.Value of a value that does not lie in the seat. -/
def SvC (t : Tv) : Prop := ∀ (w : World) (p : Nat) (M : Nat → Prop) (cs : Array Value), Sea w p M → Tis w M t cs → tmuch t ≤ 100000 → Calls Tryd.prog 6 #[.pointer (some ⟨p, 0, none⟩), .agg cs] w fun e w' => ∃ cs' M', e = .returned (.agg cs') ∧ Sea w' p M' ∧ (∀ x, M' x → M x ∨ w.heap.size ≤ x) ∧ Kp M w w' ∧ Tiw w' M' t cs'
theorem Seb.inn {w : World} {p : Nat} {M : Nat → Prop} {d : Sd} (h : Seb w p M d) : ∀ x, d.inn p x → M x := fun x hx => by
  rcases hx with e | e | e | ⟨i, hi, e⟩
  · exact h.mo x (.inl e)
  · exact h.mo x (.inr (.inr (.inr (.inl e))))
  · exact h.mo x (.inr (.inr (.inr (.inr e))))
  · exact (h.ms i hi x e).1
theorem row_slice {w : World} {B e s n : Nat} {v : Value} {xs : List Value} (h : w.ownsRow B e s v n xs) : ∃ a c, v = .slice a n c := by
  rcases h.2 with ⟨e, h0⟩ | ⟨g, c, cur, e, _⟩
  · exact ⟨none, 0, by rw [e, h0]⟩
  · exact ⟨_, _, e⟩
/-- What is read in Values' last region, and never changed there. -/
def Sst (p : Nat) (vb vt vu : Value) (qs : List Nat) (b o : Nat) (cu : Array Value) (wy : World) : Prop := (∃ v4, wy.heap[p]? = some (.cells (scs vb vt v4 vu) 32 (0, 0))) ∧ wy.ownsRow 0 24 1 vu qs.length (sps qs) ∧ ∀ j x, cu[j]? = some x → wy.cell? ⟨b, o + j, none⟩ = some x
theorem Sst.kp {p : Nat} {vb vt vu : Value} {qs : List Nat} {b o : Nat} {cu : Array Value} {wy wz : World} {S : Nat → Prop} (h : Sst p vb vt vu qs b o cu wy) (hk : Kp S wy wz) (hp : ¬ S p) (hu : ∀ q, vu.ownBlock = some q → ¬ S q) (hb : ¬ S b) : Sst p vb vt vu qs b o cu wz := by
  obtain ⟨⟨v4, h1⟩, h2, h3⟩ := h
  exact ⟨⟨v4, (hk.block p (blk_lt h1) hp).trans h1⟩, hk.owns h2 hu, fun j x hx => hk.cell (h3 j x hx) hb⟩
theorem Sst.set {p : Nat} {vb vt vu : Value} {qs : List Nat} {b o : Nat} {cu : Array Value} {wy : World} (h : Sst p vb vt vu qs b o cu wy) (v : Value) (hb : b ≠ p) (hu : ∀ q, vu.ownBlock = some q → ¬ q = p) : Sst p vb vt vu qs b o cu (wy.setCell ⟨p, 4, none⟩ v) := by
  obtain ⟨⟨v4, h1⟩, h2, h3⟩ := h
  have hk : Kp (fun q => q = p) wy (wy.setCell ⟨p, 4, none⟩ v) := (Kp.refl _ _).setCell _ _ (fun _ => rfl)
  exact ⟨⟨v, blk_set 4 v h1⟩, hk.owns h2 hu, fun j x hx => hk.cell (h3 j x hx) hb⟩
set_option maxRecDepth 1000000 in
set_option maxHeartbeats 4000000 in
theorem svalues_any (ts : List Tv) (ih : ∀ u ∈ ts, SvC u) (hmu : ∀ u ∈ ts, tmuch u ≤ 100000) (hlen : ts.length ≤ 100000) (w : World) (p : Nat) (M : Nat → Prop) (d : Sd) (h : Seb w p M d) (hc : ∀ (i q : Nat), d.qs[i]? = some q → Sea w q (d.Ms i)) (a : Option Addr) (cap : Nat) (cx : Nat → Array Value) (hi : ∀ (i : Nat) (u : Tv), ts[i]? = some u → Tis w M u (cx i))
    (ha : ts = [] ∨ ∃ b off, a = some ⟨b, off, none⟩ ∧ ¬ M b ∧ ∀ i, i < ts.length → ∀ j x, (cx i)[j]? = some x → w.cell? ⟨b, off + i * 13 + j, none⟩ = some x) :
    Calls Tryd.prog 21 #[.pointer (some ⟨p, 0, none⟩), .slice a ts.length cap] w fun e w' => ∃ d' L, e = .returned d'.vv ∧ L.length = ts.length ∧ Svs w w' p d d' ts L := by
  obtain ⟨av, cv, hvv⟩ := row_slice h.fv
  have q4 : w.cell? ⟨p, 4, none⟩ = some (.slice av d.nv cv) := by rw [← hvv]; exact blk_cell (j := 4) h.fp rfl
  have f4 : w.frozen? ⟨p, 4, none⟩ = false := blk_frozen 4 h.fp
  have HS0 := hide (Svs.start (ts := ts) h hc hvv)
  have HIN := hide h.inn
  have HIH := hide ih
  have HMU := hide hmu
  have HLN := hide hlen
  have HTS := hide hi
  have HA := hide ha
  clear h hc hvv ih hmu hi ha
  go_enter Tryd.func21, Tryd.ntmps21
  go_wp2_with fail
  generalize w.setCell ⟨p, 4, none⟩ (.slice av 0 cv) = w1 at *
  go_loopw [5] (fun q wr => ∃ i : Nat, i ≤ ts.length ∧ q = .int .i64 (i : Nat) ∧ Hid (∃ d' L, L.length = i ∧ Svs w wr p d d' ts L)) (fun q _ => ts.length - (intOf q).toNat)
  case atStart => exact ⟨0, Nat.zero_le _, rfl, _, [], rfl, HS0.out⟩
  case round =>
    rename World => wr
    obtain ⟨i, hi, rfl, HR⟩ := hrel
    obtain ⟨d1, L, hL, hS⟩ := HR.out
    subst hL
    have HS1 := hide hS
    clear hS HR HS0 q4 f4
    by_cases hlt : L.length < ts.length
    · have g1 : (L.length : Int) < (ts.length : Int) := by omega
      have HLT := hide hlt
      obtain ⟨au, cu, hvu⟩ := row_slice HS1.out.fu
      have q5 : wr.cell? ⟨p, 5, none⟩ = some (.slice au d1.qs.length cu) := by rw [← hvu]; exact blk_cell (j := 5) HS1.out.fp rfl
      have f5 : wr.frozen? ⟨p, 5, none⟩ = false := blk_frozen 5 HS1.out.fp
      have HVU1 := hide hvu
      clear hvu
      have hle := HS1.out.q
      by_cases hq : L.length = d1.qs.length
      · have g2 : ((L.length : Int) == (d1.qs.length : Int)) = true := beq_iff_eq.2 (by omega)
        have HQ := hide hq
        have HFU : Hid ((wr.alloc (.cells (scs (.slice none 0 0) (.slice none 0 0) (.slice none 0 0) (.slice none 0 0)) 32)).ownsRow 0 24 1 (.slice au d1.qs.length cu) d1.qs.length (sps d1.qs)) := by
          have h := (HS1.out.next (below_alloc4 wr (.cells (scs (.slice none 0 0) (.slice none 0 0) (.slice none 0 0) (.slice none 0 0)) 32))).fu
          rw [HVU1.out] at h
          exact h
        have hsz : (wr.alloc (.cells (scs (.slice none 0 0) (.slice none 0 0) (.slice none 0 0) (.slice none 0 0)) 32)).heap.size = wr.heap.size + 1 := by simp
        have HSZ := hide hsz
        have HQL : Hid (d1.qs.length < 1099511627776) := by show _ < _; have := HLN.out; omega
        clear hsz hq hle hlt hi
        go_wp2_with (at_builtin; refine append_sp rfl _ _ rfl _ d1.qs.length (sps d1.qs) rfl HFU.out (.pointer (some ⟨wr.heap.size, 0, none⟩)) (wr.heap.size + 1) HSZ.out rfl rfl HQL.out ?_)
        intro vu' w2 ho2 hg2 hn2
        obtain ⟨au2, cu3, hvu2⟩ := row_slice ho2
        subst hvu2
        have hbs := below_alloc4 (wr.alloc (.cells (scs (.slice none 0 0) (.slice none 0 0) (.slice none 0 0) (.slice none 0 0)) 32)) (.cells #[.pointer (some ⟨wr.heap.size, 0, none⟩)] 24)
        have hk2 : Kp (fun q => d1.vu.ownBlock = some q) (wr.alloc (.cells (scs (.slice none 0 0) (.slice none 0 0) (.slice none 0 0) (.slice none 0 0)) 32)) w2 := (Kp.of_below (S := fun q => d1.vu.ownBlock = some q) hbs).grown hg2 (fun q _ e => by rw [HVU1.out]; exact e)
        have hmore := HS1.out.more (vu' := (.slice au2 (d1.qs.length + 1) cu3)) hk2 (by rw [sps, List.map_append]; exact ho2) (fun q hq => by
          rcases hn2 with e | e
          · left
            rw [HVU1.out, ← e]
            exact hq
          · right
            rw [e] at hq
            injection hq with hq
            have := HSZ.out
            omega)
        have fp2 := (hk2.block p (by have h1 := blk_lt HS1.out.fp; have h2 := HSZ.out; omega) (fun e => own_not HS1.out.fu HS1.out.fp (by decide) e)).trans (blk_alloc _ HS1.out.fp)
        have q5b : w2.cell? ⟨p, 5, none⟩ = some d1.vu := blk_cell (j := 5) fp2 rfl
        have f5b : w2.frozen? ⟨p, 5, none⟩ = false := blk_frozen 5 fp2
        obtain ⟨d2, hS2, hQ2⟩ : ∃ d2, Svs w (w2.setCell ⟨p, 5, none⟩ (.slice au2 (d1.qs.length + 1) cu3)) p d d2 ts L ∧ L.length < d2.qs.length := ⟨_, hmore, by show L.length < (d1.qs ++ [wr.heap.size]).length; rw [List.length_append, List.length_singleton, HQ.out]; omega⟩
        have HS2 := hide hS2
        have HQ2 := hide hQ2
        clear hS2 hQ2 hmore hk2 hbs ho2 hg2 hn2 fp2 q5 f5 HFU HSZ HQL HS1
        go_upto_region 7 with fail
        generalize w2.setCell ⟨p, 5, none⟩ (.slice au2 (d1.qs.length + 1) cu3) = wd at *
        have g3 : (L.length : Int) < (d2.qs.length : Int) := by have := HQ2.out; omega
        clear q5b f5b g2
        obtain ⟨g, hg⟩ : ∃ g, d2.qs[L.length]? = some g := ⟨_, List.getElem?_eq_getElem HQ2.out⟩
        obtain ⟨u, hu⟩ : ∃ u, ts[L.length]? = some u := ⟨_, List.getElem?_eq_getElem HLT.out⟩
        obtain ⟨b, off, rfl, hMb, hcc⟩ := HA.out.resolve_left (fun h => by have := HLT.out; rw [h] at this; simp at this)
        obtain ⟨av2, cv2, hvv2⟩ := row_slice HS2.out.fv
        obtain ⟨gu, cu2, hvu2⟩ : ∃ gu cu2, d2.vu = .slice (some ⟨gu, 0, none⟩) d2.qs.length cu2 := by
          have hq := HQ2.out
          rcases HS2.out.fu.2 with ⟨_, h0⟩ | ⟨g', c', cur, e, _⟩
          · omega
          · exact ⟨g', c', e⟩
        have HG2 := hide hg
        have HU2 := hide hu
        have HVV := hide hvv2
        have HVU := hide hvu2
        have HUM : Hid (u ∈ ts) := List.mem_of_getElem? hu
        have HMQ : Hid (tmuch u ≤ 100000) := HMU.out u HUM.out
        have HBL0 : Hid (b < w.heap.size ∨ (cx L.length).size = 0) := by
          show _ ∨ _
          rcases Nat.eq_zero_or_pos (cx L.length).size with e | e
          · exact .inr e
          · exact .inl (cell_lt6 (hcc L.length HLT.out 0 _ (Array.getElem?_eq_getElem e)))
        have HCX : Hid ((cx L.length).size = 13) := (HTS.out L.length u hu).tin.size13
        have HBW : Hid (b < w.heap.size) := HBL0.out.resolve_right (by have := HCX.out; omega)
        have HBL : Hid (b < wd.heap.size) := Nat.lt_of_lt_of_le HBW.out HS2.out.z
        have HNI : Hid (∀ q, d2.inn p q → q ≠ b) := fun q hq e => by
          rcases HS2.out.nw q hq with h1 | h1
          · exact hMb (by rw [← e]; exact HIN.out q h1)
          · have := HBW.out
            omega
        have HNP : Hid (¬ d2.Ms L.length p) := fun e => (HS2.out.ms L.length HQ2.out p e).1 rfl
        have HNU : Hid (∀ q, (Value.slice (some ⟨gu, 0, none⟩) d2.qs.length cu2).ownBlock = some q → ¬ d2.Ms L.length q) := fun q hq e => (HS2.out.ms L.length HQ2.out q e).2.2 (by rw [hvu2]; exact hq)
        have HNV : Hid (∀ q, d2.vv.ownBlock = some q → ¬ d2.Ms L.length q) := fun q hq e => (HS2.out.ms L.length HQ2.out q e).2.1 hq
        have HNB : Hid (¬ d2.Ms L.length b) := fun e => HNI.out b (.inr (.inr (.inr ⟨_, HQ2.out, e⟩))) rfl
        have HWP : Hid (¬ d2.vv.ownBlock = some p) := own_not HS2.out.fv HS2.out.fp (by decide)
        have HWU : Hid (∀ q, (Value.slice (some ⟨gu, 0, none⟩) d2.qs.length cu2).ownBlock = some q → ¬ d2.vv.ownBlock = some q) := fun q hq e => own_apart HS2.out.fu HS2.out.fv (by decide) (by rw [hvu2]; exact hq) e
        have HWB : Hid (¬ d2.vv.ownBlock = some b) := fun e => HNI.out b (.inr (.inl e)) rfl
        have HUL : Hid (∀ q, (Value.slice (some ⟨gu, 0, none⟩) d2.qs.length cu2).ownBlock = some q → q < wd.heap.size) := fun q hq => (HS2.out.fu.lt q (by rw [hvu2]; exact hq)).2
        have HBP : Hid (b ≠ p) := fun e => HNI.out p (.inl rfl) e.symm
        have HUP : Hid (∀ q, (Value.slice (some ⟨gu, 0, none⟩) d2.qs.length cu2).ownBlock = some q → ¬ q = p) := fun q hq e => own_not HS2.out.fu HS2.out.fp (by decide) (by rw [hvu2, hq, e])
        have HP4 : Hid (∀ wy, Kp (d2.Ms L.length) wd wy → wy.cell? ⟨p, 4, none⟩ = some (.slice av2 L.length cv2)) := fun wy hk => by rw [← HVV.out]; exact blk_cell (j := 4) ((hk.block p (blk_lt HS2.out.fp) HNP.out).trans HS2.out.fp) rfl
        have HTI : Hid (∀ wy, Kp (d2.Ms L.length) wd wy → Tis wy (d2.Ms L.length) u (cx L.length)) := fun wy hk => by
          have h1 := ((HTS.out L.length u hu).widen.kp (HS2.out.k.mono (fun q _ e => .inl (HIN.out q e)))).mono (T := d2.Ms L.length) (fun q hq => (HS2.out.nw q (.inr (.inr (.inr ⟨_, HQ2.out, hq⟩)))).imp (HIN.out q) id)
          exact h1.kp hk
        have HS0 : Hid (Sst p d.vb d.vt (.slice (some ⟨gu, 0, none⟩) d2.qs.length cu2) d2.qs b (off + L.length * 13) (cx L.length) wd) := by
          refine ⟨⟨d2.vv, ?_⟩, ?_, fun j x hx => ?_⟩
          · have h1 := HS2.out.fp
            rw [hvu2] at h1
            exact h1
          · have h1 := HS2.out.fu
            rw [hvu2] at h1
            exact h1
          · exact HS2.out.k.cell (hcc L.length HLT.out j x hx) (fun e => hMb (HIN.out b e))
        clear hg hu hMb hcc hvv2 hvu2 HBL0
        go_wp2_with fail
        refine heldStart (S := Sst p d.vb d.vt (.slice (some ⟨gu, 0, none⟩) d2.qs.length cu2) d2.qs b (off + L.length * 13) (cx L.length)) (by kernel_rfl) ?_
        have HB1 : Hid (Below wd.heap.size wd wd.drew) := by refine Below.drew ?_; exact Below.refl _ _
        have HKc : Hid (Kp (d2.Ms L.length) wd wd.drew) := Kp.of_below HB1.out
        have hS : Sst p d.vb d.vt (.slice (some ⟨gu, 0, none⟩) d2.qs.length cu2) d2.qs b (off + L.length * 13) (cx L.length) wd.drew := HS0.out.kp (Kp.of_below (S := fun _ => False) HB1.out) (fun e => e) (fun _ _ e => e) (fun e => e)
        have HEc := hide ((HS2.out.c L.length g HG2.out).next HB1.out)
        clear HB1 HS0
        generalize wd.drew = wk at *
        refine heldTake 0 _ rfl (by kernel_rfl) (by kernel_rfl) (by kernel_rfl) (fun _ _ _ h => h) rfl hS (fun wy hy => by first | (go_simp; done) | (go_simp; rfl) | rfl) ?_
        (try simp only [Act.put]); (try simp only [List.setIfInBounds_toArray, List.set_cons_zero, List.set_cons_succ])
        refine heldTake 1 _ rfl (by kernel_rfl) (by kernel_rfl) (by kernel_rfl) (fun _ _ _ h => h) rfl hS (fun wy hy => by first | (go_simp; done) | (go_simp; rfl) | rfl) ?_
        (try simp only [Act.put]); (try simp only [List.setIfInBounds_toArray, List.set_cons_zero, List.set_cons_succ])
        refine heldTake 2 _ rfl (by kernel_rfl) (by kernel_rfl) (by kernel_rfl) (fun _ _ _ h => h) rfl hS (fun wy hy => by first | (go_simp; done) | (go_simp; rfl) | rfl) ?_
        (try simp only [Act.put]); (try simp only [List.setIfInBounds_toArray, List.set_cons_zero, List.set_cons_succ])
        refine heldTake 4 _ rfl (by kernel_rfl) (by kernel_rfl) (by kernel_rfl) (fun _ _ _ h => h) rfl hS (fun wy hy => by first | (go_simp; done) | (go_simp; rfl) | rfl) ?_
        (try simp only [Act.put]); (try simp only [List.setIfInBounds_toArray, List.set_cons_zero, List.set_cons_succ])
        refine heldTake 5 _ rfl (by kernel_rfl) (by kernel_rfl) (by kernel_rfl) (fun _ _ _ h => h) rfl hS (fun wy hy => by first | (go_simp; done) | (go_simp; rfl) | rfl) ?_
        (try simp only [Act.put]); (try simp only [List.setIfInBounds_toArray, List.set_cons_zero, List.set_cons_succ])
        refine heldTake 6 _ rfl (by kernel_rfl) (by kernel_rfl) (by kernel_rfl) (fun _ _ _ h => h) rfl hS (fun wy hy => by first | (go_simp; done) | (go_simp; rfl) | rfl) ?_
        (try simp only [Act.put]); (try simp only [List.setIfInBounds_toArray, List.set_cons_zero, List.set_cons_succ])
        refine heldTake 7 _ rfl (by kernel_rfl) (by kernel_rfl) (by kernel_rfl) (fun _ _ _ h => h) rfl hS (fun wy hy => by obtain ⟨v4, h4⟩ := hy.1; have h0 : wy.cell? ⟨p, 5, none⟩ = some (.slice (some ⟨gu, 0, none⟩) d2.qs.length cu2) := blk_cell (j := 5) h4 rfl; first | (go_simp; done) | (go_simp; rfl) | rfl) ?_
        (try simp only [Act.put]); (try simp only [List.setIfInBounds_toArray, List.set_cons_zero, List.set_cons_succ])
        refine heldTake 8 _ rfl (by kernel_rfl) (by kernel_rfl) (by kernel_rfl) (fun _ _ _ h => h) rfl hS (fun wy hy => by first | (go_simp; done) | (go_simp; rfl) | rfl) ?_
        (try simp only [Act.put]); (try simp only [List.setIfInBounds_toArray, List.set_cons_zero, List.set_cons_succ])
        refine heldTake 9 _ rfl (by kernel_rfl) (by kernel_rfl) (by kernel_rfl) (fun _ _ _ h => h) rfl hS (fun wy hy => by first | (go_simp; done) | (go_simp; rfl) | rfl) ?_
        (try simp only [Act.put]); (try simp only [List.setIfInBounds_toArray, List.set_cons_zero, List.set_cons_succ])
        refine heldTake 10 _ rfl (by kernel_rfl) (by kernel_rfl) (by kernel_rfl) (fun _ _ _ h => h) rfl hS (fun wy hy => by have h0 : wy.cell? ⟨gu, L.length, none⟩ = some (.pointer (some ⟨g, 0, none⟩)) := (own_cell hy.2.1 (j := L.length) (by simp [sps, HG2.out])).1; first | (go_simp; done) | (go_simp; rfl) | rfl) ?_
        (try simp only [Act.put]); (try simp only [List.setIfInBounds_toArray, List.set_cons_zero, List.set_cons_succ])
        refine heldTake 11 _ rfl (by kernel_rfl) (by kernel_rfl) (by kernel_rfl) (fun _ _ _ h => h) rfl hS (fun wy hy => by first | (go_simp; done) | (go_simp; rfl) | rfl) ?_
        (try simp only [Act.put]); (try simp only [List.setIfInBounds_toArray, List.set_cons_zero, List.set_cons_succ])
        refine heldTake 12 _ rfl (by kernel_rfl) (by kernel_rfl) (by kernel_rfl) (fun _ _ _ h => h) rfl hS (fun wy hy => by first | (go_simp; done) | (go_simp; rfl) | rfl) ?_
        (try simp only [Act.put]); (try simp only [List.setIfInBounds_toArray, List.set_cons_zero, List.set_cons_succ])
        refine heldTake 13 _ rfl (by kernel_rfl) (by kernel_rfl) (by kernel_rfl) (fun _ _ _ h => h) rfl hS (fun wy hy => by first | (go_simp; done) | (go_simp; rfl) | rfl) ?_
        (try simp only [Act.put]); (try simp only [List.setIfInBounds_toArray, List.set_cons_zero, List.set_cons_succ])
        refine heldTake 14 _ rfl (by kernel_rfl) (by kernel_rfl) (by kernel_rfl) (fun _ _ _ h => h) rfl hS (fun wy hy => exec_valAt (g := b) (off := off + L.length * 13) (cs := cx L.length) rfl rfl HCX.out hy.2.2) ?_
        (try simp only [Act.put]); (try simp only [List.setIfInBounds_toArray, List.set_cons_zero, List.set_cons_succ])
        refine wpAnyH_ready (rs := [3, 15, 17]) (by kernel_rfl) (by simp) ?_
        refine AllReadyH.cons rfl (fun K hK => ?_) (AllReadyH.cons rfl (fun K hK => ?_) (AllReadyH.cons rfl (fun K hK => ?_) AllReadyH.nil))
        · as_aux_lemma =>
          have x4 : wk.cell? ⟨p, 4, none⟩ = some (.slice av2 L.length cv2) := HP4.out wk HKc.out
          go_simp
          refine (Shut.out hK) _ _ hS (fun hS2 => ?_)
          clear hK K hS2 x4
          (try simp only [Act.put]); (try simp only [List.setIfInBounds_toArray, List.set_cons_zero, List.set_cons_succ])
          refine heldTake 16 _ rfl (by kernel_rfl) (by kernel_rfl) (by kernel_rfl) (fun _ _ _ h => h) rfl hS (fun wy hy => by first | (go_simp; done) | (go_simp; rfl) | rfl) ?_
          (try simp only [Act.put]); (try simp only [List.setIfInBounds_toArray, List.set_cons_zero, List.set_cons_succ])
          refine wpAnyH_ready (rs := [15, 17]) (by kernel_rfl) (by simp) ?_
          refine AllReadyH.cons rfl (fun K hK => ?_) (AllReadyH.cons rfl (fun K hK => ?_) AllReadyH.nil)
          · as_aux_lemma =>
            have hcl := HIH.out u HUM.out wk g (d2.Ms L.length) (cx L.length) HEc.out (HTI.out wk HKc.out) HMQ.out
            go_simp
            refine hcl.mono ?_
            rintro e wkc ⟨cc, M2, rfl, hse, hsm, hsk, hst⟩
            have HKn := hide (HKc.out.trans hsk (fun _ _ e => e))
            have hSn : Sst p d.vb d.vt (.slice (some ⟨gu, 0, none⟩) d2.qs.length cu2) d2.qs b (off + L.length * 13) (cx L.length) wkc := hS.kp hsk HNP.out HNU.out HNB.out
            have HEn := hide hse
            have HMn : Hid (∀ x, M2 x → d2.Ms L.length x ∨ wd.heap.size ≤ x) := fun x hx => (hsm x hx).imp id (fun e => Nat.le_trans HKc.out.size e)
            have HTn := hide hst
            refine (Shut.out hK) _ _ hSn (fun hS2 => ?_)
            clear hK K hS HKc HEc hcl hse hsm hsk hst 
            have hS := hS2
            clear hS2 hSn
            (try simp only [Act.put]); (try simp only [List.setIfInBounds_toArray, List.set_cons_zero, List.set_cons_succ])
            have HKc := HKn
            have HEc := HEn
            have HMc := HMn
            have HTc := HTn
            clear HKn HEn HMn HTn
            refine heldStep 17 rfl (by kernel_rfl) (fun K hK => ?_)
            have HZn : Hid ((wkc.alloc (.cells zv 38)).heap[wkc.heap.size]? = some (.cells zv 38 (0, 0)) ∧ wd.heap.size ≤ wkc.heap.size) := ⟨heap_alloc_new wkc _, HKc.out.size⟩
            have HBA := hide (below_alloc4 wkc (.cells zv 38))
            have hSn : Sst p d.vb d.vt (.slice (some ⟨gu, 0, none⟩) d2.qs.length cu2) d2.qs b (off + L.length * 13) (cx L.length) (wkc.alloc (.cells zv 38)) := hS.kp (Kp.of_below (S := fun _ => False) HBA.out) (fun e => e) (fun _ _ e => e) (fun e => e)
            have HKn := hide (HKc.out.trans (Kp.of_below (S := d2.Ms L.length) HBA.out) (fun _ _ e => e))
            have HEn := hide (HEc.out.next HBA.out)
            have HTn := hide (HTc.out.kp (Kp.of_below (S := fun _ => False) HBA.out) (fun _ _ e => e))
            refine step_val18 rfl rfl zv rfl rfl ?_
            refine (Hid.out hK) _ (wkc.alloc (.cells zv 38)) hSn (fun hS2 => ?_)
            clear hK K hS HKc HEc HTc
            have hS := hS2
            clear hS2 hSn
            (try simp only [Act.put]); (try simp only [List.setIfInBounds_toArray, List.set_cons_zero, List.set_cons_succ])
            generalize hza : wkc.heap.size = za at *
            clear hza
            generalize wkc.alloc (.cells zv 38) = wkca at *
            have HKc := HKn
            have HEc := HEn
            have HZc := HZn
            have HTc := HTn
            clear HTn
            clear HKn HEn HZn HBA
            have HC13 := hide HTc.out.tin.size13
            have HCO : Hid (∀ v ∈ cc.toList, v.oneCell' = true) := fun v hv => by
              have h1 := HTc.out.tin.all1
              rw [Array.all_eq_true'] at h1
              exact h1 v (by simpa using hv)
            have HFV : Hid (wkca.ownsRow 0 38 13 (.slice av2 L.length cv2) L.length (vfl L)) := by
              have h := HKc.out.owns HS2.out.fv HNV.out
              rw [HVV.out] at h
              exact h
            refine heldStep 18 rfl (by kernel_rfl) (fun K hK => ?_)
            refine step_append_val8 rfl _ _ rfl 0 (.slice av2 L.length cv2) L.length (vfl L) rfl HFV.out za zv zv_one8 rfl HZc.out.1 (by have := HLN.out; omega) (Nat.zero_le _) (fun v5 w5 ho5 hg5 hq5 => ?_)
            obtain ⟨gi, c5, hv5, cur5, hcur5, hcs5⟩ : ∃ gi c5, v5 = .slice (some ⟨gi, 0, none⟩) (L.length + 1) c5 ∧ ∃ cur5, w5.heap[gi]? = some (.cells cur5 38 (0, 0)) ∧ (L.length + 1) * 13 ≤ cur5.size := by
              rcases ho5.2 with ⟨_, h0⟩ | ⟨gi, c5, cur5, e, _, h1, h2, _, h3, _⟩
              · omega
              · exact ⟨gi, c5, e, cur5, h1, by rw [h3]; exact Nat.mul_le_mul_right 13 h2⟩
            subst hv5
            have hk5 : Kp (fun r => d2.vv.ownBlock = some r) wkca w5 := (Kp.refl _ _).grown hg5 (fun _ _ h => by rw [HVV.out]; exact h)
            have hgi5 : d2.vv.ownBlock = some gi ∨ gi = wkca.heap.size := by
              rcases hq5 with e | e
              · exact .inl (by rw [HVV.out, ← e]; rfl)
              · injection e with e
                exact .inr e
            have HPUT := hide (HS2.out.put HQ2.out HG2.out HU2.out HKc.out HEc.out HMc.out HTc.out HC13.out hk5 ho5 hgi5 hcur5)
            have hS5 : Sst p d.vb d.vt (.slice (some ⟨gu, 0, none⟩) d2.qs.length cu2) d2.qs b (off + L.length * 13) (cx L.length) w5 := hS.kp hk5 HWP.out HWU.out HWB.out
            have HGP : Hid (gi ≠ p) := fun e => by
              rcases hgi5 with h | h
              · exact HWP.out (by rw [← e]; exact h)
              · have h1 := HKc.out.size
                have h2 := blk_lt HS2.out.fp
                omega
            have HGB : Hid (gi ≠ b) := fun e => by
              rcases hgi5 with h | h
              · exact HWB.out (by rw [← e]; exact h)
              · have h1 := HKc.out.size
                have h2 := HBL.out
                omega
            have HGU : Hid (∀ q, (Value.slice (some ⟨gu, 0, none⟩) d2.qs.length cu2).ownBlock = some q → ¬ q = gi) := fun q hq e => by
              rcases hgi5 with h | h
              · exact HWU.out q hq (by rw [e]; exact h)
              · have h1 := HKc.out.size
                have h2 := HUL.out q hq
                omega
            have HI5 : Hid ((Tryd.prog.info? 38).map (·.size) = some cc.size) := by show _ = _; rw [HC13.out]; exact infoV
            have HX5 : Hid (L.length * 13 + cc.size ≤ cur5.size) := by have := HC13.out; show _ ≤ _; omega
            have HCR := hide hcur5
            have HP5 := hide hS5.1
            have HIX : Hid ((((L.length : Nat) : Int) < ((L.length + 1 : Nat) : Int)) ∧ (L.length : Int) < (L.length : Int) + 1) := ⟨by omega, by omega⟩
            refine (Hid.out hK) _ _ hS5 (fun hS6 => ?_)
            clear hK K ho5 hg5 hq5 hk5 hgi5 hcs5 hcur5 hS hS5 HFV HKc HEc HMc HTc HZc
            have hS := hS6
            clear hS6
            (try simp only [Act.put]); (try simp only [List.setIfInBounds_toArray, List.set_cons_zero, List.set_cons_succ])
            refine heldTake 19 (.pointer (some ⟨gi, L.length * 13, none⟩)) rfl (by kernel_rfl) (by kernel_rfl) (by kernel_rfl) (fun _ _ _ h => h) rfl hS (fun wy hy => by have h0 := HIX.out.1; have h1 := HIX.out.2; first | (go_simp; done) | (go_simp; omega) | (go_simp; rfl)) ?_
            (try simp only [Act.put]); (try simp only [List.setIfInBounds_toArray, List.set_cons_zero, List.set_cons_succ])
            refine heldTake 21 _ rfl (by kernel_rfl) (by kernel_rfl) (by kernel_rfl) (fun _ _ _ h => h) rfl hS (fun wy hy => by first | (go_simp; done) | (go_simp; rfl) | rfl) ?_
            (try simp only [Act.put]); (try simp only [List.setIfInBounds_toArray, List.set_cons_zero, List.set_cons_succ])
            refine heldTake 22 _ rfl (by kernel_rfl) (by kernel_rfl) (by kernel_rfl) (fun _ _ _ h => h) rfl hS (fun wy hy => by first | (go_simp; done) | (go_simp; rfl) | rfl) ?_
            (try simp only [Act.put]); (try simp only [List.setIfInBounds_toArray, List.set_cons_zero, List.set_cons_succ])
            have hS4 : Sst p d.vb d.vt (.slice (some ⟨gu, 0, none⟩) d2.qs.length cu2) d2.qs b (off + L.length * 13) (cx L.length) (w5.setRow gi (splice cur5.toList (L.length * 13) cc.toList).toArray) := hS.kp (row_kp w5 gi _) (fun e => HGP.out e.symm) HGU.out (fun e => HGB.out e.symm)
            obtain ⟨v4a, hv4a⟩ := HP5.out
            obtain ⟨v4b, hv4b⟩ := hS4.1
            have c4a : w5.cell? ⟨p, 4, none⟩ = some v4a := blk_cell (j := 4) hv4a rfl
            have f4a : w5.frozen? ⟨p, 4, none⟩ = false := blk_frozen 4 hv4a
            have c4b : (w5.setRow gi (splice cur5.toList (L.length * 13) cc.toList).toArray).cell? ⟨p, 4, none⟩ = some v4b := blk_cell (j := 4) hv4b rfl
            have f4b : (w5.setRow gi (splice cur5.toList (L.length * 13) cc.toList).toArray).frozen? ⟨p, 4, none⟩ = false := blk_frozen 4 hv4b
            have HS4s : Hid (Sst p d.vb d.vt (.slice (some ⟨gu, 0, none⟩) d2.qs.length cu2) d2.qs b (off + L.length * 13) (cx L.length) ((w5.setRow gi (splice cur5.toList (L.length * 13) cc.toList).toArray).setCell ⟨p, 4, none⟩ (.slice (some ⟨gi, 0, none⟩) (L.length + 1) c5))) := hS4.set _ HBP.out HUP.out
            have HS5s : Hid (Sst p d.vb d.vt (.slice (some ⟨gu, 0, none⟩) d2.qs.length cu2) d2.qs b (off + L.length * 13) (cx L.length) (w5.setCell ⟨p, 4, none⟩ (.slice (some ⟨gi, 0, none⟩) (L.length + 1) c5))) := hS.set _ HBP.out HUP.out
            have HEQ := hide (row_cell_comm w5 p gi 4 (.slice (some ⟨gi, 0, none⟩) (L.length + 1) c5) (splice cur5.toList (L.length * 13) cc.toList).toArray HGP.out)
            have HCR7 : Hid ((w5.setCell ⟨p, 4, none⟩ (.slice (some ⟨gi, 0, none⟩) (L.length + 1) c5)).heap[gi]? = some (.cells cur5 38 (0, 0))) := blk_other _ _ HCR.out HGP.out
            clear hv4a hv4b
            refine wpAnyH_ready (rs := [20, 23]) (by kernel_rfl) (by simp) ?_
            refine AllReadyH.cons rfl (fun K hK => ?_) (AllReadyH.cons rfl (fun K hK => ?_) AllReadyH.nil)
            · as_aux_lemma =>
              refine step_storePart8 rfl rfl gi (L.length * 13) cur5 cc 38 rfl rfl HCR.out HI5.out HX5.out HCO.out ?_
              refine (Shut.out hK) _ _ hS4 (fun hS6 => ?_)
              clear hK K hS hS4 c4a f4a
              (try simp only [Act.put])
              generalize w5.setRow gi (splice cur5.toList (L.length * 13) cc.toList).toArray = w6 at *
              refine heldStep 23 rfl (by kernel_rfl) (fun K hK => ?_)
              go_simp
              refine (Hid.out hK) _ _ HS4s.out (fun hS7 => ?_)
              clear hK K hS6 c4b f4b
              (try simp only [Act.put])
              refine heldDone (by kernel_rfl) ?_
              clear hS7
              have HFIN : Hid (∃ d' L', L'.length = L.length + 1 ∧ Svs w (w6.setCell ⟨p, 4, none⟩ (.slice (some ⟨gi, 0, none⟩) (L.length + 1) c5)) p d d' ts L') := ⟨_, L ++ [cc], by rw [List.length_append, List.length_singleton], HPUT.out⟩
              clear HPUT
              go_wp2_with fail
              go_roundw
              case rel => exact ⟨L.length + 1, by have := HLT.out; omega, by go_num, HFIN⟩
              case measure => have := HLT.out; simp [intOf]; omega
            · as_aux_lemma =>
              go_simp
              refine (Shut.out hK) _ _ HS5s.out (fun hS6 => ?_)
              clear hK K hS hS4 c4a f4a c4b f4b
              (try simp only [Act.put])
              refine heldStep 20 rfl (by kernel_rfl) (fun K hK => ?_)
              refine step_storePart8 rfl rfl gi (L.length * 13) cur5 cc 38 rfl rfl HCR7.out HI5.out HX5.out HCO.out ?_
              refine (Hid.out hK) _ _ (by rw [HEQ.out]; exact HS4s.out) (fun hS7 => ?_)
              clear hK K hS6
              (try simp only [Act.put])
              refine heldDone (by kernel_rfl) ?_
              clear hS7
              have HFIN : Hid (∃ d' L', L'.length = L.length + 1 ∧ Svs w ((w5.setCell ⟨p, 4, none⟩ (.slice (some ⟨gi, 0, none⟩) (L.length + 1) c5)).setRow gi (splice cur5.toList (L.length * 13) cc.toList).toArray) p d d' ts L') := ⟨_, L ++ [cc], by rw [List.length_append, List.length_singleton], by rw [HEQ.out]; exact HPUT.out⟩
              clear HPUT
              go_wp2_with fail
              go_roundw
              case rel => exact ⟨L.length + 1, by have := HLT.out; omega, by go_num, HFIN⟩
              case measure => have := HLT.out; simp [intOf]; omega
          · as_aux_lemma =>
            have HZn : Hid ((wk.alloc (.cells zv 38)).heap[wk.heap.size]? = some (.cells zv 38 (0, 0)) ∧ wd.heap.size ≤ wk.heap.size) := ⟨heap_alloc_new wk _, HKc.out.size⟩
            have HBA := hide (below_alloc4 wk (.cells zv 38))
            have hSn : Sst p d.vb d.vt (.slice (some ⟨gu, 0, none⟩) d2.qs.length cu2) d2.qs b (off + L.length * 13) (cx L.length) (wk.alloc (.cells zv 38)) := hS.kp (Kp.of_below (S := fun _ => False) HBA.out) (fun e => e) (fun _ _ e => e) (fun e => e)
            have HKn := hide (HKc.out.trans (Kp.of_below (S := d2.Ms L.length) HBA.out) (fun _ _ e => e))
            have HEn := hide (HEc.out.next HBA.out)
            refine step_val18 rfl rfl zv rfl rfl ?_
            refine (Shut.out hK) _ (wk.alloc (.cells zv 38)) hSn (fun hS2 => ?_)
            clear hK K hS HKc HEc 
            have hS := hS2
            clear hS2 hSn
            (try simp only [Act.put]); (try simp only [List.setIfInBounds_toArray])
            generalize hza : wk.heap.size = za at *
            clear hza
            generalize wk.alloc (.cells zv 38) = wka at *
            have HKc := HKn
            have HEc := HEn
            have HZc := HZn
            clear HKn HEn HZn HBA
            refine heldStep 15 rfl (by kernel_rfl) (fun K hK => ?_)
            have hcl := HIH.out u HUM.out wka g (d2.Ms L.length) (cx L.length) HEc.out (HTI.out wka HKc.out) HMQ.out
            go_simp
            refine hcl.mono ?_
            rintro e wkac ⟨cc, M2, rfl, hse, hsm, hsk, hst⟩
            have HKn := hide (HKc.out.trans hsk (fun _ _ e => e))
            have hSn : Sst p d.vb d.vt (.slice (some ⟨gu, 0, none⟩) d2.qs.length cu2) d2.qs b (off + L.length * 13) (cx L.length) wkac := hS.kp hsk HNP.out HNU.out HNB.out
            have HEn := hide hse
            have HMn : Hid (∀ x, M2 x → d2.Ms L.length x ∨ wd.heap.size ≤ x) := fun x hx => (hsm x hx).imp id (fun e => Nat.le_trans HKc.out.size e)
            have HTn := hide hst
            have HZn : Hid (wkac.heap[za]? = some (.cells zv 38 (0, 0)) ∧ wd.heap.size ≤ za) := ⟨(hsk.block _ (blk_lt HZc.out.1) (fun e => by have h1 := HS2.out.lt HQ2.out e; have h2 := HZc.out.2; omega)).trans HZc.out.1, HZc.out.2⟩
            refine (Hid.out hK) _ _ hSn (fun hS2 => ?_)
            clear hK K hS HKc HEc hcl hse hsm hsk hst HZc
            have hS := hS2
            clear hS2 hSn
            (try simp only [Act.put]); (try simp only [List.setIfInBounds_toArray, List.set_cons_zero, List.set_cons_succ])
            have HKc := HKn
            have HEc := HEn
            have HMc := HMn
            have HTc := HTn
            have HZc := HZn
            clear HZn
            clear HKn HEn HMn HTn
            have HC13 := hide HTc.out.tin.size13
            have HCO : Hid (∀ v ∈ cc.toList, v.oneCell' = true) := fun v hv => by
              have h1 := HTc.out.tin.all1
              rw [Array.all_eq_true'] at h1
              exact h1 v (by simpa using hv)
            have HFV : Hid (wkac.ownsRow 0 38 13 (.slice av2 L.length cv2) L.length (vfl L)) := by
              have h := HKc.out.owns HS2.out.fv HNV.out
              rw [HVV.out] at h
              exact h
            refine heldStep 18 rfl (by kernel_rfl) (fun K hK => ?_)
            refine step_append_val8 rfl _ _ rfl 0 (.slice av2 L.length cv2) L.length (vfl L) rfl HFV.out za zv zv_one8 rfl HZc.out.1 (by have := HLN.out; omega) (Nat.zero_le _) (fun v5 w5 ho5 hg5 hq5 => ?_)
            obtain ⟨gi, c5, hv5, cur5, hcur5, hcs5⟩ : ∃ gi c5, v5 = .slice (some ⟨gi, 0, none⟩) (L.length + 1) c5 ∧ ∃ cur5, w5.heap[gi]? = some (.cells cur5 38 (0, 0)) ∧ (L.length + 1) * 13 ≤ cur5.size := by
              rcases ho5.2 with ⟨_, h0⟩ | ⟨gi, c5, cur5, e, _, h1, h2, _, h3, _⟩
              · omega
              · exact ⟨gi, c5, e, cur5, h1, by rw [h3]; exact Nat.mul_le_mul_right 13 h2⟩
            subst hv5
            have hk5 : Kp (fun r => d2.vv.ownBlock = some r) wkac w5 := (Kp.refl _ _).grown hg5 (fun _ _ h => by rw [HVV.out]; exact h)
            have hgi5 : d2.vv.ownBlock = some gi ∨ gi = wkac.heap.size := by
              rcases hq5 with e | e
              · exact .inl (by rw [HVV.out, ← e]; rfl)
              · injection e with e
                exact .inr e
            have HPUT := hide (HS2.out.put HQ2.out HG2.out HU2.out HKc.out HEc.out HMc.out HTc.out HC13.out hk5 ho5 hgi5 hcur5)
            have hS5 : Sst p d.vb d.vt (.slice (some ⟨gu, 0, none⟩) d2.qs.length cu2) d2.qs b (off + L.length * 13) (cx L.length) w5 := hS.kp hk5 HWP.out HWU.out HWB.out
            have HGP : Hid (gi ≠ p) := fun e => by
              rcases hgi5 with h | h
              · exact HWP.out (by rw [← e]; exact h)
              · have h1 := HKc.out.size
                have h2 := blk_lt HS2.out.fp
                omega
            have HGB : Hid (gi ≠ b) := fun e => by
              rcases hgi5 with h | h
              · exact HWB.out (by rw [← e]; exact h)
              · have h1 := HKc.out.size
                have h2 := HBL.out
                omega
            have HGU : Hid (∀ q, (Value.slice (some ⟨gu, 0, none⟩) d2.qs.length cu2).ownBlock = some q → ¬ q = gi) := fun q hq e => by
              rcases hgi5 with h | h
              · exact HWU.out q hq (by rw [e]; exact h)
              · have h1 := HKc.out.size
                have h2 := HUL.out q hq
                omega
            have HI5 : Hid ((Tryd.prog.info? 38).map (·.size) = some cc.size) := by show _ = _; rw [HC13.out]; exact infoV
            have HX5 : Hid (L.length * 13 + cc.size ≤ cur5.size) := by have := HC13.out; show _ ≤ _; omega
            have HCR := hide hcur5
            have HP5 := hide hS5.1
            have HIX : Hid ((((L.length : Nat) : Int) < ((L.length + 1 : Nat) : Int)) ∧ (L.length : Int) < (L.length : Int) + 1) := ⟨by omega, by omega⟩
            refine (Hid.out hK) _ _ hS5 (fun hS6 => ?_)
            clear hK K ho5 hg5 hq5 hk5 hgi5 hcs5 hcur5 hS hS5 HFV HKc HEc HMc HTc HZc
            have hS := hS6
            clear hS6
            (try simp only [Act.put]); (try simp only [List.setIfInBounds_toArray, List.set_cons_zero, List.set_cons_succ])
            refine heldTake 19 (.pointer (some ⟨gi, L.length * 13, none⟩)) rfl (by kernel_rfl) (by kernel_rfl) (by kernel_rfl) (fun _ _ _ h => h) rfl hS (fun wy hy => by have h0 := HIX.out.1; have h1 := HIX.out.2; first | (go_simp; done) | (go_simp; omega) | (go_simp; rfl)) ?_
            (try simp only [Act.put]); (try simp only [List.setIfInBounds_toArray, List.set_cons_zero, List.set_cons_succ])
            refine heldTake 21 _ rfl (by kernel_rfl) (by kernel_rfl) (by kernel_rfl) (fun _ _ _ h => h) rfl hS (fun wy hy => by first | (go_simp; done) | (go_simp; rfl) | rfl) ?_
            (try simp only [Act.put]); (try simp only [List.setIfInBounds_toArray, List.set_cons_zero, List.set_cons_succ])
            refine heldTake 22 _ rfl (by kernel_rfl) (by kernel_rfl) (by kernel_rfl) (fun _ _ _ h => h) rfl hS (fun wy hy => by first | (go_simp; done) | (go_simp; rfl) | rfl) ?_
            (try simp only [Act.put]); (try simp only [List.setIfInBounds_toArray, List.set_cons_zero, List.set_cons_succ])
            have hS4 : Sst p d.vb d.vt (.slice (some ⟨gu, 0, none⟩) d2.qs.length cu2) d2.qs b (off + L.length * 13) (cx L.length) (w5.setRow gi (splice cur5.toList (L.length * 13) cc.toList).toArray) := hS.kp (row_kp w5 gi _) (fun e => HGP.out e.symm) HGU.out (fun e => HGB.out e.symm)
            obtain ⟨v4a, hv4a⟩ := HP5.out
            obtain ⟨v4b, hv4b⟩ := hS4.1
            have c4a : w5.cell? ⟨p, 4, none⟩ = some v4a := blk_cell (j := 4) hv4a rfl
            have f4a : w5.frozen? ⟨p, 4, none⟩ = false := blk_frozen 4 hv4a
            have c4b : (w5.setRow gi (splice cur5.toList (L.length * 13) cc.toList).toArray).cell? ⟨p, 4, none⟩ = some v4b := blk_cell (j := 4) hv4b rfl
            have f4b : (w5.setRow gi (splice cur5.toList (L.length * 13) cc.toList).toArray).frozen? ⟨p, 4, none⟩ = false := blk_frozen 4 hv4b
            have HS4s : Hid (Sst p d.vb d.vt (.slice (some ⟨gu, 0, none⟩) d2.qs.length cu2) d2.qs b (off + L.length * 13) (cx L.length) ((w5.setRow gi (splice cur5.toList (L.length * 13) cc.toList).toArray).setCell ⟨p, 4, none⟩ (.slice (some ⟨gi, 0, none⟩) (L.length + 1) c5))) := hS4.set _ HBP.out HUP.out
            have HS5s : Hid (Sst p d.vb d.vt (.slice (some ⟨gu, 0, none⟩) d2.qs.length cu2) d2.qs b (off + L.length * 13) (cx L.length) (w5.setCell ⟨p, 4, none⟩ (.slice (some ⟨gi, 0, none⟩) (L.length + 1) c5))) := hS.set _ HBP.out HUP.out
            have HEQ := hide (row_cell_comm w5 p gi 4 (.slice (some ⟨gi, 0, none⟩) (L.length + 1) c5) (splice cur5.toList (L.length * 13) cc.toList).toArray HGP.out)
            have HCR7 : Hid ((w5.setCell ⟨p, 4, none⟩ (.slice (some ⟨gi, 0, none⟩) (L.length + 1) c5)).heap[gi]? = some (.cells cur5 38 (0, 0))) := blk_other _ _ HCR.out HGP.out
            clear hv4a hv4b
            refine wpAnyH_ready (rs := [20, 23]) (by kernel_rfl) (by simp) ?_
            refine AllReadyH.cons rfl (fun K hK => ?_) (AllReadyH.cons rfl (fun K hK => ?_) AllReadyH.nil)
            · as_aux_lemma =>
              refine step_storePart8 rfl rfl gi (L.length * 13) cur5 cc 38 rfl rfl HCR.out HI5.out HX5.out HCO.out ?_
              refine (Shut.out hK) _ _ hS4 (fun hS6 => ?_)
              clear hK K hS hS4 c4a f4a
              (try simp only [Act.put])
              generalize w5.setRow gi (splice cur5.toList (L.length * 13) cc.toList).toArray = w6 at *
              refine heldStep 23 rfl (by kernel_rfl) (fun K hK => ?_)
              go_simp
              refine (Hid.out hK) _ _ HS4s.out (fun hS7 => ?_)
              clear hK K hS6 c4b f4b
              (try simp only [Act.put])
              refine heldDone (by kernel_rfl) ?_
              clear hS7
              have HFIN : Hid (∃ d' L', L'.length = L.length + 1 ∧ Svs w (w6.setCell ⟨p, 4, none⟩ (.slice (some ⟨gi, 0, none⟩) (L.length + 1) c5)) p d d' ts L') := ⟨_, L ++ [cc], by rw [List.length_append, List.length_singleton], HPUT.out⟩
              clear HPUT
              go_wp2_with fail
              go_roundw
              case rel => exact ⟨L.length + 1, by have := HLT.out; omega, by go_num, HFIN⟩
              case measure => have := HLT.out; simp [intOf]; omega
            · as_aux_lemma =>
              go_simp
              refine (Shut.out hK) _ _ HS5s.out (fun hS6 => ?_)
              clear hK K hS hS4 c4a f4a c4b f4b
              (try simp only [Act.put])
              refine heldStep 20 rfl (by kernel_rfl) (fun K hK => ?_)
              refine step_storePart8 rfl rfl gi (L.length * 13) cur5 cc 38 rfl rfl HCR7.out HI5.out HX5.out HCO.out ?_
              refine (Hid.out hK) _ _ (by rw [HEQ.out]; exact HS4s.out) (fun hS7 => ?_)
              clear hK K hS6
              (try simp only [Act.put])
              refine heldDone (by kernel_rfl) ?_
              clear hS7
              have HFIN : Hid (∃ d' L', L'.length = L.length + 1 ∧ Svs w ((w5.setCell ⟨p, 4, none⟩ (.slice (some ⟨gi, 0, none⟩) (L.length + 1) c5)).setRow gi (splice cur5.toList (L.length * 13) cc.toList).toArray) p d d' ts L') := ⟨_, L ++ [cc], by rw [List.length_append, List.length_singleton], by rw [HEQ.out]; exact HPUT.out⟩
              clear HPUT
              go_wp2_with fail
              go_roundw
              case rel => exact ⟨L.length + 1, by have := HLT.out; omega, by go_num, HFIN⟩
              case measure => have := HLT.out; simp [intOf]; omega
        · as_aux_lemma =>
          have hcl := HIH.out u HUM.out wk g (d2.Ms L.length) (cx L.length) HEc.out (HTI.out wk HKc.out) HMQ.out
          go_simp
          refine hcl.mono ?_
          rintro e wkc ⟨cc, M2, rfl, hse, hsm, hsk, hst⟩
          have HKn := hide (HKc.out.trans hsk (fun _ _ e => e))
          have hSn : Sst p d.vb d.vt (.slice (some ⟨gu, 0, none⟩) d2.qs.length cu2) d2.qs b (off + L.length * 13) (cx L.length) wkc := hS.kp hsk HNP.out HNU.out HNB.out
          have HEn := hide hse
          have HMn : Hid (∀ x, M2 x → d2.Ms L.length x ∨ wd.heap.size ≤ x) := fun x hx => (hsm x hx).imp id (fun e => Nat.le_trans HKc.out.size e)
          have HTn := hide hst
          refine (Shut.out hK) _ _ hSn (fun hS2 => ?_)
          clear hK K hS HKc HEc hcl hse hsm hsk hst 
          have hS := hS2
          clear hS2 hSn
          (try simp only [Act.put]); (try simp only [List.setIfInBounds_toArray, List.set_cons_zero, List.set_cons_succ])
          have HKc := HKn
          have HEc := HEn
          have HMc := HMn
          have HTc := HTn
          clear HKn HEn HMn HTn
          refine wpAnyH_ready (rs := [3, 17]) (by kernel_rfl) (by simp) ?_
          refine AllReadyH.cons rfl (fun K hK => ?_) (AllReadyH.cons rfl (fun K hK => ?_) AllReadyH.nil)
          · as_aux_lemma =>
            have x4 : wkc.cell? ⟨p, 4, none⟩ = some (.slice av2 L.length cv2) := HP4.out wkc HKc.out
            go_simp
            refine (Shut.out hK) _ _ hS (fun hS2 => ?_)
            clear hK K hS2 x4
            (try simp only [Act.put]); (try simp only [List.setIfInBounds_toArray, List.set_cons_zero, List.set_cons_succ])
            refine heldTake 16 _ rfl (by kernel_rfl) (by kernel_rfl) (by kernel_rfl) (fun _ _ _ h => h) rfl hS (fun wy hy => by first | (go_simp; done) | (go_simp; rfl) | rfl) ?_
            (try simp only [Act.put]); (try simp only [List.setIfInBounds_toArray, List.set_cons_zero, List.set_cons_succ])
            refine heldStep 17 rfl (by kernel_rfl) (fun K hK => ?_)
            have HZn : Hid ((wkc.alloc (.cells zv 38)).heap[wkc.heap.size]? = some (.cells zv 38 (0, 0)) ∧ wd.heap.size ≤ wkc.heap.size) := ⟨heap_alloc_new wkc _, HKc.out.size⟩
            have HBA := hide (below_alloc4 wkc (.cells zv 38))
            have hSn : Sst p d.vb d.vt (.slice (some ⟨gu, 0, none⟩) d2.qs.length cu2) d2.qs b (off + L.length * 13) (cx L.length) (wkc.alloc (.cells zv 38)) := hS.kp (Kp.of_below (S := fun _ => False) HBA.out) (fun e => e) (fun _ _ e => e) (fun e => e)
            have HKn := hide (HKc.out.trans (Kp.of_below (S := d2.Ms L.length) HBA.out) (fun _ _ e => e))
            have HEn := hide (HEc.out.next HBA.out)
            have HTn := hide (HTc.out.kp (Kp.of_below (S := fun _ => False) HBA.out) (fun _ _ e => e))
            refine step_val18 rfl rfl zv rfl rfl ?_
            refine (Hid.out hK) _ (wkc.alloc (.cells zv 38)) hSn (fun hS2 => ?_)
            clear hK K hS HKc HEc HTc
            have hS := hS2
            clear hS2 hSn
            (try simp only [Act.put]); (try simp only [List.setIfInBounds_toArray, List.set_cons_zero, List.set_cons_succ])
            generalize hza : wkc.heap.size = za at *
            clear hza
            generalize wkc.alloc (.cells zv 38) = wkca at *
            have HKc := HKn
            have HEc := HEn
            have HZc := HZn
            have HTc := HTn
            clear HTn
            clear HKn HEn HZn HBA
            have HC13 := hide HTc.out.tin.size13
            have HCO : Hid (∀ v ∈ cc.toList, v.oneCell' = true) := fun v hv => by
              have h1 := HTc.out.tin.all1
              rw [Array.all_eq_true'] at h1
              exact h1 v (by simpa using hv)
            have HFV : Hid (wkca.ownsRow 0 38 13 (.slice av2 L.length cv2) L.length (vfl L)) := by
              have h := HKc.out.owns HS2.out.fv HNV.out
              rw [HVV.out] at h
              exact h
            refine heldStep 18 rfl (by kernel_rfl) (fun K hK => ?_)
            refine step_append_val8 rfl _ _ rfl 0 (.slice av2 L.length cv2) L.length (vfl L) rfl HFV.out za zv zv_one8 rfl HZc.out.1 (by have := HLN.out; omega) (Nat.zero_le _) (fun v5 w5 ho5 hg5 hq5 => ?_)
            obtain ⟨gi, c5, hv5, cur5, hcur5, hcs5⟩ : ∃ gi c5, v5 = .slice (some ⟨gi, 0, none⟩) (L.length + 1) c5 ∧ ∃ cur5, w5.heap[gi]? = some (.cells cur5 38 (0, 0)) ∧ (L.length + 1) * 13 ≤ cur5.size := by
              rcases ho5.2 with ⟨_, h0⟩ | ⟨gi, c5, cur5, e, _, h1, h2, _, h3, _⟩
              · omega
              · exact ⟨gi, c5, e, cur5, h1, by rw [h3]; exact Nat.mul_le_mul_right 13 h2⟩
            subst hv5
            have hk5 : Kp (fun r => d2.vv.ownBlock = some r) wkca w5 := (Kp.refl _ _).grown hg5 (fun _ _ h => by rw [HVV.out]; exact h)
            have hgi5 : d2.vv.ownBlock = some gi ∨ gi = wkca.heap.size := by
              rcases hq5 with e | e
              · exact .inl (by rw [HVV.out, ← e]; rfl)
              · injection e with e
                exact .inr e
            have HPUT := hide (HS2.out.put HQ2.out HG2.out HU2.out HKc.out HEc.out HMc.out HTc.out HC13.out hk5 ho5 hgi5 hcur5)
            have hS5 : Sst p d.vb d.vt (.slice (some ⟨gu, 0, none⟩) d2.qs.length cu2) d2.qs b (off + L.length * 13) (cx L.length) w5 := hS.kp hk5 HWP.out HWU.out HWB.out
            have HGP : Hid (gi ≠ p) := fun e => by
              rcases hgi5 with h | h
              · exact HWP.out (by rw [← e]; exact h)
              · have h1 := HKc.out.size
                have h2 := blk_lt HS2.out.fp
                omega
            have HGB : Hid (gi ≠ b) := fun e => by
              rcases hgi5 with h | h
              · exact HWB.out (by rw [← e]; exact h)
              · have h1 := HKc.out.size
                have h2 := HBL.out
                omega
            have HGU : Hid (∀ q, (Value.slice (some ⟨gu, 0, none⟩) d2.qs.length cu2).ownBlock = some q → ¬ q = gi) := fun q hq e => by
              rcases hgi5 with h | h
              · exact HWU.out q hq (by rw [e]; exact h)
              · have h1 := HKc.out.size
                have h2 := HUL.out q hq
                omega
            have HI5 : Hid ((Tryd.prog.info? 38).map (·.size) = some cc.size) := by show _ = _; rw [HC13.out]; exact infoV
            have HX5 : Hid (L.length * 13 + cc.size ≤ cur5.size) := by have := HC13.out; show _ ≤ _; omega
            have HCR := hide hcur5
            have HP5 := hide hS5.1
            have HIX : Hid ((((L.length : Nat) : Int) < ((L.length + 1 : Nat) : Int)) ∧ (L.length : Int) < (L.length : Int) + 1) := ⟨by omega, by omega⟩
            refine (Hid.out hK) _ _ hS5 (fun hS6 => ?_)
            clear hK K ho5 hg5 hq5 hk5 hgi5 hcs5 hcur5 hS hS5 HFV HKc HEc HMc HTc HZc
            have hS := hS6
            clear hS6
            (try simp only [Act.put]); (try simp only [List.setIfInBounds_toArray, List.set_cons_zero, List.set_cons_succ])
            refine heldTake 19 (.pointer (some ⟨gi, L.length * 13, none⟩)) rfl (by kernel_rfl) (by kernel_rfl) (by kernel_rfl) (fun _ _ _ h => h) rfl hS (fun wy hy => by have h0 := HIX.out.1; have h1 := HIX.out.2; first | (go_simp; done) | (go_simp; omega) | (go_simp; rfl)) ?_
            (try simp only [Act.put]); (try simp only [List.setIfInBounds_toArray, List.set_cons_zero, List.set_cons_succ])
            refine heldTake 21 _ rfl (by kernel_rfl) (by kernel_rfl) (by kernel_rfl) (fun _ _ _ h => h) rfl hS (fun wy hy => by first | (go_simp; done) | (go_simp; rfl) | rfl) ?_
            (try simp only [Act.put]); (try simp only [List.setIfInBounds_toArray, List.set_cons_zero, List.set_cons_succ])
            refine heldTake 22 _ rfl (by kernel_rfl) (by kernel_rfl) (by kernel_rfl) (fun _ _ _ h => h) rfl hS (fun wy hy => by first | (go_simp; done) | (go_simp; rfl) | rfl) ?_
            (try simp only [Act.put]); (try simp only [List.setIfInBounds_toArray, List.set_cons_zero, List.set_cons_succ])
            have hS4 : Sst p d.vb d.vt (.slice (some ⟨gu, 0, none⟩) d2.qs.length cu2) d2.qs b (off + L.length * 13) (cx L.length) (w5.setRow gi (splice cur5.toList (L.length * 13) cc.toList).toArray) := hS.kp (row_kp w5 gi _) (fun e => HGP.out e.symm) HGU.out (fun e => HGB.out e.symm)
            obtain ⟨v4a, hv4a⟩ := HP5.out
            obtain ⟨v4b, hv4b⟩ := hS4.1
            have c4a : w5.cell? ⟨p, 4, none⟩ = some v4a := blk_cell (j := 4) hv4a rfl
            have f4a : w5.frozen? ⟨p, 4, none⟩ = false := blk_frozen 4 hv4a
            have c4b : (w5.setRow gi (splice cur5.toList (L.length * 13) cc.toList).toArray).cell? ⟨p, 4, none⟩ = some v4b := blk_cell (j := 4) hv4b rfl
            have f4b : (w5.setRow gi (splice cur5.toList (L.length * 13) cc.toList).toArray).frozen? ⟨p, 4, none⟩ = false := blk_frozen 4 hv4b
            have HS4s : Hid (Sst p d.vb d.vt (.slice (some ⟨gu, 0, none⟩) d2.qs.length cu2) d2.qs b (off + L.length * 13) (cx L.length) ((w5.setRow gi (splice cur5.toList (L.length * 13) cc.toList).toArray).setCell ⟨p, 4, none⟩ (.slice (some ⟨gi, 0, none⟩) (L.length + 1) c5))) := hS4.set _ HBP.out HUP.out
            have HS5s : Hid (Sst p d.vb d.vt (.slice (some ⟨gu, 0, none⟩) d2.qs.length cu2) d2.qs b (off + L.length * 13) (cx L.length) (w5.setCell ⟨p, 4, none⟩ (.slice (some ⟨gi, 0, none⟩) (L.length + 1) c5))) := hS.set _ HBP.out HUP.out
            have HEQ := hide (row_cell_comm w5 p gi 4 (.slice (some ⟨gi, 0, none⟩) (L.length + 1) c5) (splice cur5.toList (L.length * 13) cc.toList).toArray HGP.out)
            have HCR7 : Hid ((w5.setCell ⟨p, 4, none⟩ (.slice (some ⟨gi, 0, none⟩) (L.length + 1) c5)).heap[gi]? = some (.cells cur5 38 (0, 0))) := blk_other _ _ HCR.out HGP.out
            clear hv4a hv4b
            refine wpAnyH_ready (rs := [20, 23]) (by kernel_rfl) (by simp) ?_
            refine AllReadyH.cons rfl (fun K hK => ?_) (AllReadyH.cons rfl (fun K hK => ?_) AllReadyH.nil)
            · as_aux_lemma =>
              refine step_storePart8 rfl rfl gi (L.length * 13) cur5 cc 38 rfl rfl HCR.out HI5.out HX5.out HCO.out ?_
              refine (Shut.out hK) _ _ hS4 (fun hS6 => ?_)
              clear hK K hS hS4 c4a f4a
              (try simp only [Act.put])
              generalize w5.setRow gi (splice cur5.toList (L.length * 13) cc.toList).toArray = w6 at *
              refine heldStep 23 rfl (by kernel_rfl) (fun K hK => ?_)
              go_simp
              refine (Hid.out hK) _ _ HS4s.out (fun hS7 => ?_)
              clear hK K hS6 c4b f4b
              (try simp only [Act.put])
              refine heldDone (by kernel_rfl) ?_
              clear hS7
              have HFIN : Hid (∃ d' L', L'.length = L.length + 1 ∧ Svs w (w6.setCell ⟨p, 4, none⟩ (.slice (some ⟨gi, 0, none⟩) (L.length + 1) c5)) p d d' ts L') := ⟨_, L ++ [cc], by rw [List.length_append, List.length_singleton], HPUT.out⟩
              clear HPUT
              go_wp2_with fail
              go_roundw
              case rel => exact ⟨L.length + 1, by have := HLT.out; omega, by go_num, HFIN⟩
              case measure => have := HLT.out; simp [intOf]; omega
            · as_aux_lemma =>
              go_simp
              refine (Shut.out hK) _ _ HS5s.out (fun hS6 => ?_)
              clear hK K hS hS4 c4a f4a c4b f4b
              (try simp only [Act.put])
              refine heldStep 20 rfl (by kernel_rfl) (fun K hK => ?_)
              refine step_storePart8 rfl rfl gi (L.length * 13) cur5 cc 38 rfl rfl HCR7.out HI5.out HX5.out HCO.out ?_
              refine (Hid.out hK) _ _ (by rw [HEQ.out]; exact HS4s.out) (fun hS7 => ?_)
              clear hK K hS6
              (try simp only [Act.put])
              refine heldDone (by kernel_rfl) ?_
              clear hS7
              have HFIN : Hid (∃ d' L', L'.length = L.length + 1 ∧ Svs w ((w5.setCell ⟨p, 4, none⟩ (.slice (some ⟨gi, 0, none⟩) (L.length + 1) c5)).setRow gi (splice cur5.toList (L.length * 13) cc.toList).toArray) p d d' ts L') := ⟨_, L ++ [cc], by rw [List.length_append, List.length_singleton], by rw [HEQ.out]; exact HPUT.out⟩
              clear HPUT
              go_wp2_with fail
              go_roundw
              case rel => exact ⟨L.length + 1, by have := HLT.out; omega, by go_num, HFIN⟩
              case measure => have := HLT.out; simp [intOf]; omega
          · as_aux_lemma =>
            have HZn : Hid ((wkc.alloc (.cells zv 38)).heap[wkc.heap.size]? = some (.cells zv 38 (0, 0)) ∧ wd.heap.size ≤ wkc.heap.size) := ⟨heap_alloc_new wkc _, HKc.out.size⟩
            have HBA := hide (below_alloc4 wkc (.cells zv 38))
            have hSn : Sst p d.vb d.vt (.slice (some ⟨gu, 0, none⟩) d2.qs.length cu2) d2.qs b (off + L.length * 13) (cx L.length) (wkc.alloc (.cells zv 38)) := hS.kp (Kp.of_below (S := fun _ => False) HBA.out) (fun e => e) (fun _ _ e => e) (fun e => e)
            have HKn := hide (HKc.out.trans (Kp.of_below (S := d2.Ms L.length) HBA.out) (fun _ _ e => e))
            have HEn := hide (HEc.out.next HBA.out)
            have HTn := hide (HTc.out.kp (Kp.of_below (S := fun _ => False) HBA.out) (fun _ _ e => e))
            refine step_val18 rfl rfl zv rfl rfl ?_
            refine (Shut.out hK) _ (wkc.alloc (.cells zv 38)) hSn (fun hS2 => ?_)
            clear hK K hS HKc HEc HTc
            have hS := hS2
            clear hS2 hSn
            (try simp only [Act.put]); (try simp only [List.setIfInBounds_toArray])
            generalize hza : wkc.heap.size = za at *
            clear hza
            generalize wkc.alloc (.cells zv 38) = wkca at *
            have HKc := HKn
            have HEc := HEn
            have HZc := HZn
            have HTc := HTn
            clear HTn
            clear HKn HEn HZn HBA
            refine heldStep 3 rfl (by kernel_rfl) (fun K hK => ?_)
            have x4 : wkca.cell? ⟨p, 4, none⟩ = some (.slice av2 L.length cv2) := HP4.out wkca HKc.out
            go_simp
            refine (Hid.out hK) _ _ hS (fun hS2 => ?_)
            clear hK K hS2 x4
            (try simp only [Act.put]); (try simp only [List.setIfInBounds_toArray, List.set_cons_zero, List.set_cons_succ])
            refine heldTake 16 _ rfl (by kernel_rfl) (by kernel_rfl) (by kernel_rfl) (fun _ _ _ h => h) rfl hS (fun wy hy => by first | (go_simp; done) | (go_simp; rfl) | rfl) ?_
            (try simp only [Act.put]); (try simp only [List.setIfInBounds_toArray, List.set_cons_zero, List.set_cons_succ])
            have HC13 := hide HTc.out.tin.size13
            have HCO : Hid (∀ v ∈ cc.toList, v.oneCell' = true) := fun v hv => by
              have h1 := HTc.out.tin.all1
              rw [Array.all_eq_true'] at h1
              exact h1 v (by simpa using hv)
            have HFV : Hid (wkca.ownsRow 0 38 13 (.slice av2 L.length cv2) L.length (vfl L)) := by
              have h := HKc.out.owns HS2.out.fv HNV.out
              rw [HVV.out] at h
              exact h
            refine heldStep 18 rfl (by kernel_rfl) (fun K hK => ?_)
            refine step_append_val8 rfl _ _ rfl 0 (.slice av2 L.length cv2) L.length (vfl L) rfl HFV.out za zv zv_one8 rfl HZc.out.1 (by have := HLN.out; omega) (Nat.zero_le _) (fun v5 w5 ho5 hg5 hq5 => ?_)
            obtain ⟨gi, c5, hv5, cur5, hcur5, hcs5⟩ : ∃ gi c5, v5 = .slice (some ⟨gi, 0, none⟩) (L.length + 1) c5 ∧ ∃ cur5, w5.heap[gi]? = some (.cells cur5 38 (0, 0)) ∧ (L.length + 1) * 13 ≤ cur5.size := by
              rcases ho5.2 with ⟨_, h0⟩ | ⟨gi, c5, cur5, e, _, h1, h2, _, h3, _⟩
              · omega
              · exact ⟨gi, c5, e, cur5, h1, by rw [h3]; exact Nat.mul_le_mul_right 13 h2⟩
            subst hv5
            have hk5 : Kp (fun r => d2.vv.ownBlock = some r) wkca w5 := (Kp.refl _ _).grown hg5 (fun _ _ h => by rw [HVV.out]; exact h)
            have hgi5 : d2.vv.ownBlock = some gi ∨ gi = wkca.heap.size := by
              rcases hq5 with e | e
              · exact .inl (by rw [HVV.out, ← e]; rfl)
              · injection e with e
                exact .inr e
            have HPUT := hide (HS2.out.put HQ2.out HG2.out HU2.out HKc.out HEc.out HMc.out HTc.out HC13.out hk5 ho5 hgi5 hcur5)
            have hS5 : Sst p d.vb d.vt (.slice (some ⟨gu, 0, none⟩) d2.qs.length cu2) d2.qs b (off + L.length * 13) (cx L.length) w5 := hS.kp hk5 HWP.out HWU.out HWB.out
            have HGP : Hid (gi ≠ p) := fun e => by
              rcases hgi5 with h | h
              · exact HWP.out (by rw [← e]; exact h)
              · have h1 := HKc.out.size
                have h2 := blk_lt HS2.out.fp
                omega
            have HGB : Hid (gi ≠ b) := fun e => by
              rcases hgi5 with h | h
              · exact HWB.out (by rw [← e]; exact h)
              · have h1 := HKc.out.size
                have h2 := HBL.out
                omega
            have HGU : Hid (∀ q, (Value.slice (some ⟨gu, 0, none⟩) d2.qs.length cu2).ownBlock = some q → ¬ q = gi) := fun q hq e => by
              rcases hgi5 with h | h
              · exact HWU.out q hq (by rw [e]; exact h)
              · have h1 := HKc.out.size
                have h2 := HUL.out q hq
                omega
            have HI5 : Hid ((Tryd.prog.info? 38).map (·.size) = some cc.size) := by show _ = _; rw [HC13.out]; exact infoV
            have HX5 : Hid (L.length * 13 + cc.size ≤ cur5.size) := by have := HC13.out; show _ ≤ _; omega
            have HCR := hide hcur5
            have HP5 := hide hS5.1
            have HIX : Hid ((((L.length : Nat) : Int) < ((L.length + 1 : Nat) : Int)) ∧ (L.length : Int) < (L.length : Int) + 1) := ⟨by omega, by omega⟩
            refine (Hid.out hK) _ _ hS5 (fun hS6 => ?_)
            clear hK K ho5 hg5 hq5 hk5 hgi5 hcs5 hcur5 hS hS5 HFV HKc HEc HMc HTc HZc
            have hS := hS6
            clear hS6
            (try simp only [Act.put]); (try simp only [List.setIfInBounds_toArray, List.set_cons_zero, List.set_cons_succ])
            refine heldTake 19 (.pointer (some ⟨gi, L.length * 13, none⟩)) rfl (by kernel_rfl) (by kernel_rfl) (by kernel_rfl) (fun _ _ _ h => h) rfl hS (fun wy hy => by have h0 := HIX.out.1; have h1 := HIX.out.2; first | (go_simp; done) | (go_simp; omega) | (go_simp; rfl)) ?_
            (try simp only [Act.put]); (try simp only [List.setIfInBounds_toArray, List.set_cons_zero, List.set_cons_succ])
            refine heldTake 21 _ rfl (by kernel_rfl) (by kernel_rfl) (by kernel_rfl) (fun _ _ _ h => h) rfl hS (fun wy hy => by first | (go_simp; done) | (go_simp; rfl) | rfl) ?_
            (try simp only [Act.put]); (try simp only [List.setIfInBounds_toArray, List.set_cons_zero, List.set_cons_succ])
            refine heldTake 22 _ rfl (by kernel_rfl) (by kernel_rfl) (by kernel_rfl) (fun _ _ _ h => h) rfl hS (fun wy hy => by first | (go_simp; done) | (go_simp; rfl) | rfl) ?_
            (try simp only [Act.put]); (try simp only [List.setIfInBounds_toArray, List.set_cons_zero, List.set_cons_succ])
            have hS4 : Sst p d.vb d.vt (.slice (some ⟨gu, 0, none⟩) d2.qs.length cu2) d2.qs b (off + L.length * 13) (cx L.length) (w5.setRow gi (splice cur5.toList (L.length * 13) cc.toList).toArray) := hS.kp (row_kp w5 gi _) (fun e => HGP.out e.symm) HGU.out (fun e => HGB.out e.symm)
            obtain ⟨v4a, hv4a⟩ := HP5.out
            obtain ⟨v4b, hv4b⟩ := hS4.1
            have c4a : w5.cell? ⟨p, 4, none⟩ = some v4a := blk_cell (j := 4) hv4a rfl
            have f4a : w5.frozen? ⟨p, 4, none⟩ = false := blk_frozen 4 hv4a
            have c4b : (w5.setRow gi (splice cur5.toList (L.length * 13) cc.toList).toArray).cell? ⟨p, 4, none⟩ = some v4b := blk_cell (j := 4) hv4b rfl
            have f4b : (w5.setRow gi (splice cur5.toList (L.length * 13) cc.toList).toArray).frozen? ⟨p, 4, none⟩ = false := blk_frozen 4 hv4b
            have HS4s : Hid (Sst p d.vb d.vt (.slice (some ⟨gu, 0, none⟩) d2.qs.length cu2) d2.qs b (off + L.length * 13) (cx L.length) ((w5.setRow gi (splice cur5.toList (L.length * 13) cc.toList).toArray).setCell ⟨p, 4, none⟩ (.slice (some ⟨gi, 0, none⟩) (L.length + 1) c5))) := hS4.set _ HBP.out HUP.out
            have HS5s : Hid (Sst p d.vb d.vt (.slice (some ⟨gu, 0, none⟩) d2.qs.length cu2) d2.qs b (off + L.length * 13) (cx L.length) (w5.setCell ⟨p, 4, none⟩ (.slice (some ⟨gi, 0, none⟩) (L.length + 1) c5))) := hS.set _ HBP.out HUP.out
            have HEQ := hide (row_cell_comm w5 p gi 4 (.slice (some ⟨gi, 0, none⟩) (L.length + 1) c5) (splice cur5.toList (L.length * 13) cc.toList).toArray HGP.out)
            have HCR7 : Hid ((w5.setCell ⟨p, 4, none⟩ (.slice (some ⟨gi, 0, none⟩) (L.length + 1) c5)).heap[gi]? = some (.cells cur5 38 (0, 0))) := blk_other _ _ HCR.out HGP.out
            clear hv4a hv4b
            refine wpAnyH_ready (rs := [20, 23]) (by kernel_rfl) (by simp) ?_
            refine AllReadyH.cons rfl (fun K hK => ?_) (AllReadyH.cons rfl (fun K hK => ?_) AllReadyH.nil)
            · as_aux_lemma =>
              refine step_storePart8 rfl rfl gi (L.length * 13) cur5 cc 38 rfl rfl HCR.out HI5.out HX5.out HCO.out ?_
              refine (Shut.out hK) _ _ hS4 (fun hS6 => ?_)
              clear hK K hS hS4 c4a f4a
              (try simp only [Act.put])
              generalize w5.setRow gi (splice cur5.toList (L.length * 13) cc.toList).toArray = w6 at *
              refine heldStep 23 rfl (by kernel_rfl) (fun K hK => ?_)
              go_simp
              refine (Hid.out hK) _ _ HS4s.out (fun hS7 => ?_)
              clear hK K hS6 c4b f4b
              (try simp only [Act.put])
              refine heldDone (by kernel_rfl) ?_
              clear hS7
              have HFIN : Hid (∃ d' L', L'.length = L.length + 1 ∧ Svs w (w6.setCell ⟨p, 4, none⟩ (.slice (some ⟨gi, 0, none⟩) (L.length + 1) c5)) p d d' ts L') := ⟨_, L ++ [cc], by rw [List.length_append, List.length_singleton], HPUT.out⟩
              clear HPUT
              go_wp2_with fail
              go_roundw
              case rel => exact ⟨L.length + 1, by have := HLT.out; omega, by go_num, HFIN⟩
              case measure => have := HLT.out; simp [intOf]; omega
            · as_aux_lemma =>
              go_simp
              refine (Shut.out hK) _ _ HS5s.out (fun hS6 => ?_)
              clear hK K hS hS4 c4a f4a c4b f4b
              (try simp only [Act.put])
              refine heldStep 20 rfl (by kernel_rfl) (fun K hK => ?_)
              refine step_storePart8 rfl rfl gi (L.length * 13) cur5 cc 38 rfl rfl HCR7.out HI5.out HX5.out HCO.out ?_
              refine (Hid.out hK) _ _ (by rw [HEQ.out]; exact HS4s.out) (fun hS7 => ?_)
              clear hK K hS6
              (try simp only [Act.put])
              refine heldDone (by kernel_rfl) ?_
              clear hS7
              have HFIN : Hid (∃ d' L', L'.length = L.length + 1 ∧ Svs w ((w5.setCell ⟨p, 4, none⟩ (.slice (some ⟨gi, 0, none⟩) (L.length + 1) c5)).setRow gi (splice cur5.toList (L.length * 13) cc.toList).toArray) p d d' ts L') := ⟨_, L ++ [cc], by rw [List.length_append, List.length_singleton], by rw [HEQ.out]; exact HPUT.out⟩
              clear HPUT
              go_wp2_with fail
              go_roundw
              case rel => exact ⟨L.length + 1, by have := HLT.out; omega, by go_num, HFIN⟩
              case measure => have := HLT.out; simp [intOf]; omega
        · as_aux_lemma =>
          have HZn : Hid ((wk.alloc (.cells zv 38)).heap[wk.heap.size]? = some (.cells zv 38 (0, 0)) ∧ wd.heap.size ≤ wk.heap.size) := ⟨heap_alloc_new wk _, HKc.out.size⟩
          have HBA := hide (below_alloc4 wk (.cells zv 38))
          have hSn : Sst p d.vb d.vt (.slice (some ⟨gu, 0, none⟩) d2.qs.length cu2) d2.qs b (off + L.length * 13) (cx L.length) (wk.alloc (.cells zv 38)) := hS.kp (Kp.of_below (S := fun _ => False) HBA.out) (fun e => e) (fun _ _ e => e) (fun e => e)
          have HKn := hide (HKc.out.trans (Kp.of_below (S := d2.Ms L.length) HBA.out) (fun _ _ e => e))
          have HEn := hide (HEc.out.next HBA.out)
          refine step_val18 rfl rfl zv rfl rfl ?_
          refine (Shut.out hK) _ (wk.alloc (.cells zv 38)) hSn (fun hS2 => ?_)
          clear hK K hS HKc HEc 
          have hS := hS2
          clear hS2 hSn
          (try simp only [Act.put]); (try simp only [List.setIfInBounds_toArray])
          generalize hza : wk.heap.size = za at *
          clear hza
          generalize wk.alloc (.cells zv 38) = wka at *
          have HKc := HKn
          have HEc := HEn
          have HZc := HZn
          clear HKn HEn HZn HBA
          refine wpAnyH_ready (rs := [3, 15]) (by kernel_rfl) (by simp) ?_
          refine AllReadyH.cons rfl (fun K hK => ?_) (AllReadyH.cons rfl (fun K hK => ?_) AllReadyH.nil)
          · as_aux_lemma =>
            have x4 : wka.cell? ⟨p, 4, none⟩ = some (.slice av2 L.length cv2) := HP4.out wka HKc.out
            go_simp
            refine (Shut.out hK) _ _ hS (fun hS2 => ?_)
            clear hK K hS2 x4
            (try simp only [Act.put]); (try simp only [List.setIfInBounds_toArray, List.set_cons_zero, List.set_cons_succ])
            refine heldTake 16 _ rfl (by kernel_rfl) (by kernel_rfl) (by kernel_rfl) (fun _ _ _ h => h) rfl hS (fun wy hy => by first | (go_simp; done) | (go_simp; rfl) | rfl) ?_
            (try simp only [Act.put]); (try simp only [List.setIfInBounds_toArray, List.set_cons_zero, List.set_cons_succ])
            refine heldStep 15 rfl (by kernel_rfl) (fun K hK => ?_)
            have hcl := HIH.out u HUM.out wka g (d2.Ms L.length) (cx L.length) HEc.out (HTI.out wka HKc.out) HMQ.out
            go_simp
            refine hcl.mono ?_
            rintro e wkac ⟨cc, M2, rfl, hse, hsm, hsk, hst⟩
            have HKn := hide (HKc.out.trans hsk (fun _ _ e => e))
            have hSn : Sst p d.vb d.vt (.slice (some ⟨gu, 0, none⟩) d2.qs.length cu2) d2.qs b (off + L.length * 13) (cx L.length) wkac := hS.kp hsk HNP.out HNU.out HNB.out
            have HEn := hide hse
            have HMn : Hid (∀ x, M2 x → d2.Ms L.length x ∨ wd.heap.size ≤ x) := fun x hx => (hsm x hx).imp id (fun e => Nat.le_trans HKc.out.size e)
            have HTn := hide hst
            have HZn : Hid (wkac.heap[za]? = some (.cells zv 38 (0, 0)) ∧ wd.heap.size ≤ za) := ⟨(hsk.block _ (blk_lt HZc.out.1) (fun e => by have h1 := HS2.out.lt HQ2.out e; have h2 := HZc.out.2; omega)).trans HZc.out.1, HZc.out.2⟩
            refine (Hid.out hK) _ _ hSn (fun hS2 => ?_)
            clear hK K hS HKc HEc hcl hse hsm hsk hst HZc
            have hS := hS2
            clear hS2 hSn
            (try simp only [Act.put]); (try simp only [List.setIfInBounds_toArray, List.set_cons_zero, List.set_cons_succ])
            have HKc := HKn
            have HEc := HEn
            have HMc := HMn
            have HTc := HTn
            have HZc := HZn
            clear HZn
            clear HKn HEn HMn HTn
            have HC13 := hide HTc.out.tin.size13
            have HCO : Hid (∀ v ∈ cc.toList, v.oneCell' = true) := fun v hv => by
              have h1 := HTc.out.tin.all1
              rw [Array.all_eq_true'] at h1
              exact h1 v (by simpa using hv)
            have HFV : Hid (wkac.ownsRow 0 38 13 (.slice av2 L.length cv2) L.length (vfl L)) := by
              have h := HKc.out.owns HS2.out.fv HNV.out
              rw [HVV.out] at h
              exact h
            refine heldStep 18 rfl (by kernel_rfl) (fun K hK => ?_)
            refine step_append_val8 rfl _ _ rfl 0 (.slice av2 L.length cv2) L.length (vfl L) rfl HFV.out za zv zv_one8 rfl HZc.out.1 (by have := HLN.out; omega) (Nat.zero_le _) (fun v5 w5 ho5 hg5 hq5 => ?_)
            obtain ⟨gi, c5, hv5, cur5, hcur5, hcs5⟩ : ∃ gi c5, v5 = .slice (some ⟨gi, 0, none⟩) (L.length + 1) c5 ∧ ∃ cur5, w5.heap[gi]? = some (.cells cur5 38 (0, 0)) ∧ (L.length + 1) * 13 ≤ cur5.size := by
              rcases ho5.2 with ⟨_, h0⟩ | ⟨gi, c5, cur5, e, _, h1, h2, _, h3, _⟩
              · omega
              · exact ⟨gi, c5, e, cur5, h1, by rw [h3]; exact Nat.mul_le_mul_right 13 h2⟩
            subst hv5
            have hk5 : Kp (fun r => d2.vv.ownBlock = some r) wkac w5 := (Kp.refl _ _).grown hg5 (fun _ _ h => by rw [HVV.out]; exact h)
            have hgi5 : d2.vv.ownBlock = some gi ∨ gi = wkac.heap.size := by
              rcases hq5 with e | e
              · exact .inl (by rw [HVV.out, ← e]; rfl)
              · injection e with e
                exact .inr e
            have HPUT := hide (HS2.out.put HQ2.out HG2.out HU2.out HKc.out HEc.out HMc.out HTc.out HC13.out hk5 ho5 hgi5 hcur5)
            have hS5 : Sst p d.vb d.vt (.slice (some ⟨gu, 0, none⟩) d2.qs.length cu2) d2.qs b (off + L.length * 13) (cx L.length) w5 := hS.kp hk5 HWP.out HWU.out HWB.out
            have HGP : Hid (gi ≠ p) := fun e => by
              rcases hgi5 with h | h
              · exact HWP.out (by rw [← e]; exact h)
              · have h1 := HKc.out.size
                have h2 := blk_lt HS2.out.fp
                omega
            have HGB : Hid (gi ≠ b) := fun e => by
              rcases hgi5 with h | h
              · exact HWB.out (by rw [← e]; exact h)
              · have h1 := HKc.out.size
                have h2 := HBL.out
                omega
            have HGU : Hid (∀ q, (Value.slice (some ⟨gu, 0, none⟩) d2.qs.length cu2).ownBlock = some q → ¬ q = gi) := fun q hq e => by
              rcases hgi5 with h | h
              · exact HWU.out q hq (by rw [e]; exact h)
              · have h1 := HKc.out.size
                have h2 := HUL.out q hq
                omega
            have HI5 : Hid ((Tryd.prog.info? 38).map (·.size) = some cc.size) := by show _ = _; rw [HC13.out]; exact infoV
            have HX5 : Hid (L.length * 13 + cc.size ≤ cur5.size) := by have := HC13.out; show _ ≤ _; omega
            have HCR := hide hcur5
            have HP5 := hide hS5.1
            have HIX : Hid ((((L.length : Nat) : Int) < ((L.length + 1 : Nat) : Int)) ∧ (L.length : Int) < (L.length : Int) + 1) := ⟨by omega, by omega⟩
            refine (Hid.out hK) _ _ hS5 (fun hS6 => ?_)
            clear hK K ho5 hg5 hq5 hk5 hgi5 hcs5 hcur5 hS hS5 HFV HKc HEc HMc HTc HZc
            have hS := hS6
            clear hS6
            (try simp only [Act.put]); (try simp only [List.setIfInBounds_toArray, List.set_cons_zero, List.set_cons_succ])
            refine heldTake 19 (.pointer (some ⟨gi, L.length * 13, none⟩)) rfl (by kernel_rfl) (by kernel_rfl) (by kernel_rfl) (fun _ _ _ h => h) rfl hS (fun wy hy => by have h0 := HIX.out.1; have h1 := HIX.out.2; first | (go_simp; done) | (go_simp; omega) | (go_simp; rfl)) ?_
            (try simp only [Act.put]); (try simp only [List.setIfInBounds_toArray, List.set_cons_zero, List.set_cons_succ])
            refine heldTake 21 _ rfl (by kernel_rfl) (by kernel_rfl) (by kernel_rfl) (fun _ _ _ h => h) rfl hS (fun wy hy => by first | (go_simp; done) | (go_simp; rfl) | rfl) ?_
            (try simp only [Act.put]); (try simp only [List.setIfInBounds_toArray, List.set_cons_zero, List.set_cons_succ])
            refine heldTake 22 _ rfl (by kernel_rfl) (by kernel_rfl) (by kernel_rfl) (fun _ _ _ h => h) rfl hS (fun wy hy => by first | (go_simp; done) | (go_simp; rfl) | rfl) ?_
            (try simp only [Act.put]); (try simp only [List.setIfInBounds_toArray, List.set_cons_zero, List.set_cons_succ])
            have hS4 : Sst p d.vb d.vt (.slice (some ⟨gu, 0, none⟩) d2.qs.length cu2) d2.qs b (off + L.length * 13) (cx L.length) (w5.setRow gi (splice cur5.toList (L.length * 13) cc.toList).toArray) := hS.kp (row_kp w5 gi _) (fun e => HGP.out e.symm) HGU.out (fun e => HGB.out e.symm)
            obtain ⟨v4a, hv4a⟩ := HP5.out
            obtain ⟨v4b, hv4b⟩ := hS4.1
            have c4a : w5.cell? ⟨p, 4, none⟩ = some v4a := blk_cell (j := 4) hv4a rfl
            have f4a : w5.frozen? ⟨p, 4, none⟩ = false := blk_frozen 4 hv4a
            have c4b : (w5.setRow gi (splice cur5.toList (L.length * 13) cc.toList).toArray).cell? ⟨p, 4, none⟩ = some v4b := blk_cell (j := 4) hv4b rfl
            have f4b : (w5.setRow gi (splice cur5.toList (L.length * 13) cc.toList).toArray).frozen? ⟨p, 4, none⟩ = false := blk_frozen 4 hv4b
            have HS4s : Hid (Sst p d.vb d.vt (.slice (some ⟨gu, 0, none⟩) d2.qs.length cu2) d2.qs b (off + L.length * 13) (cx L.length) ((w5.setRow gi (splice cur5.toList (L.length * 13) cc.toList).toArray).setCell ⟨p, 4, none⟩ (.slice (some ⟨gi, 0, none⟩) (L.length + 1) c5))) := hS4.set _ HBP.out HUP.out
            have HS5s : Hid (Sst p d.vb d.vt (.slice (some ⟨gu, 0, none⟩) d2.qs.length cu2) d2.qs b (off + L.length * 13) (cx L.length) (w5.setCell ⟨p, 4, none⟩ (.slice (some ⟨gi, 0, none⟩) (L.length + 1) c5))) := hS.set _ HBP.out HUP.out
            have HEQ := hide (row_cell_comm w5 p gi 4 (.slice (some ⟨gi, 0, none⟩) (L.length + 1) c5) (splice cur5.toList (L.length * 13) cc.toList).toArray HGP.out)
            have HCR7 : Hid ((w5.setCell ⟨p, 4, none⟩ (.slice (some ⟨gi, 0, none⟩) (L.length + 1) c5)).heap[gi]? = some (.cells cur5 38 (0, 0))) := blk_other _ _ HCR.out HGP.out
            clear hv4a hv4b
            refine wpAnyH_ready (rs := [20, 23]) (by kernel_rfl) (by simp) ?_
            refine AllReadyH.cons rfl (fun K hK => ?_) (AllReadyH.cons rfl (fun K hK => ?_) AllReadyH.nil)
            · as_aux_lemma =>
              refine step_storePart8 rfl rfl gi (L.length * 13) cur5 cc 38 rfl rfl HCR.out HI5.out HX5.out HCO.out ?_
              refine (Shut.out hK) _ _ hS4 (fun hS6 => ?_)
              clear hK K hS hS4 c4a f4a
              (try simp only [Act.put])
              generalize w5.setRow gi (splice cur5.toList (L.length * 13) cc.toList).toArray = w6 at *
              refine heldStep 23 rfl (by kernel_rfl) (fun K hK => ?_)
              go_simp
              refine (Hid.out hK) _ _ HS4s.out (fun hS7 => ?_)
              clear hK K hS6 c4b f4b
              (try simp only [Act.put])
              refine heldDone (by kernel_rfl) ?_
              clear hS7
              have HFIN : Hid (∃ d' L', L'.length = L.length + 1 ∧ Svs w (w6.setCell ⟨p, 4, none⟩ (.slice (some ⟨gi, 0, none⟩) (L.length + 1) c5)) p d d' ts L') := ⟨_, L ++ [cc], by rw [List.length_append, List.length_singleton], HPUT.out⟩
              clear HPUT
              go_wp2_with fail
              go_roundw
              case rel => exact ⟨L.length + 1, by have := HLT.out; omega, by go_num, HFIN⟩
              case measure => have := HLT.out; simp [intOf]; omega
            · as_aux_lemma =>
              go_simp
              refine (Shut.out hK) _ _ HS5s.out (fun hS6 => ?_)
              clear hK K hS hS4 c4a f4a c4b f4b
              (try simp only [Act.put])
              refine heldStep 20 rfl (by kernel_rfl) (fun K hK => ?_)
              refine step_storePart8 rfl rfl gi (L.length * 13) cur5 cc 38 rfl rfl HCR7.out HI5.out HX5.out HCO.out ?_
              refine (Hid.out hK) _ _ (by rw [HEQ.out]; exact HS4s.out) (fun hS7 => ?_)
              clear hK K hS6
              (try simp only [Act.put])
              refine heldDone (by kernel_rfl) ?_
              clear hS7
              have HFIN : Hid (∃ d' L', L'.length = L.length + 1 ∧ Svs w ((w5.setCell ⟨p, 4, none⟩ (.slice (some ⟨gi, 0, none⟩) (L.length + 1) c5)).setRow gi (splice cur5.toList (L.length * 13) cc.toList).toArray) p d d' ts L') := ⟨_, L ++ [cc], by rw [List.length_append, List.length_singleton], by rw [HEQ.out]; exact HPUT.out⟩
              clear HPUT
              go_wp2_with fail
              go_roundw
              case rel => exact ⟨L.length + 1, by have := HLT.out; omega, by go_num, HFIN⟩
              case measure => have := HLT.out; simp [intOf]; omega
          · as_aux_lemma =>
            have hcl := HIH.out u HUM.out wka g (d2.Ms L.length) (cx L.length) HEc.out (HTI.out wka HKc.out) HMQ.out
            go_simp
            refine hcl.mono ?_
            rintro e wkac ⟨cc, M2, rfl, hse, hsm, hsk, hst⟩
            have HKn := hide (HKc.out.trans hsk (fun _ _ e => e))
            have hSn : Sst p d.vb d.vt (.slice (some ⟨gu, 0, none⟩) d2.qs.length cu2) d2.qs b (off + L.length * 13) (cx L.length) wkac := hS.kp hsk HNP.out HNU.out HNB.out
            have HEn := hide hse
            have HMn : Hid (∀ x, M2 x → d2.Ms L.length x ∨ wd.heap.size ≤ x) := fun x hx => (hsm x hx).imp id (fun e => Nat.le_trans HKc.out.size e)
            have HTn := hide hst
            have HZn : Hid (wkac.heap[za]? = some (.cells zv 38 (0, 0)) ∧ wd.heap.size ≤ za) := ⟨(hsk.block _ (blk_lt HZc.out.1) (fun e => by have h1 := HS2.out.lt HQ2.out e; have h2 := HZc.out.2; omega)).trans HZc.out.1, HZc.out.2⟩
            refine (Shut.out hK) _ _ hSn (fun hS2 => ?_)
            clear hK K hS HKc HEc hcl hse hsm hsk hst HZc
            have hS := hS2
            clear hS2 hSn
            (try simp only [Act.put]); (try simp only [List.setIfInBounds_toArray, List.set_cons_zero, List.set_cons_succ])
            have HKc := HKn
            have HEc := HEn
            have HMc := HMn
            have HTc := HTn
            have HZc := HZn
            clear HZn
            clear HKn HEn HMn HTn
            refine heldStep 3 rfl (by kernel_rfl) (fun K hK => ?_)
            have x4 : wkac.cell? ⟨p, 4, none⟩ = some (.slice av2 L.length cv2) := HP4.out wkac HKc.out
            go_simp
            refine (Hid.out hK) _ _ hS (fun hS2 => ?_)
            clear hK K hS2 x4
            (try simp only [Act.put]); (try simp only [List.setIfInBounds_toArray, List.set_cons_zero, List.set_cons_succ])
            refine heldTake 16 _ rfl (by kernel_rfl) (by kernel_rfl) (by kernel_rfl) (fun _ _ _ h => h) rfl hS (fun wy hy => by first | (go_simp; done) | (go_simp; rfl) | rfl) ?_
            (try simp only [Act.put]); (try simp only [List.setIfInBounds_toArray, List.set_cons_zero, List.set_cons_succ])
            have HC13 := hide HTc.out.tin.size13
            have HCO : Hid (∀ v ∈ cc.toList, v.oneCell' = true) := fun v hv => by
              have h1 := HTc.out.tin.all1
              rw [Array.all_eq_true'] at h1
              exact h1 v (by simpa using hv)
            have HFV : Hid (wkac.ownsRow 0 38 13 (.slice av2 L.length cv2) L.length (vfl L)) := by
              have h := HKc.out.owns HS2.out.fv HNV.out
              rw [HVV.out] at h
              exact h
            refine heldStep 18 rfl (by kernel_rfl) (fun K hK => ?_)
            refine step_append_val8 rfl _ _ rfl 0 (.slice av2 L.length cv2) L.length (vfl L) rfl HFV.out za zv zv_one8 rfl HZc.out.1 (by have := HLN.out; omega) (Nat.zero_le _) (fun v5 w5 ho5 hg5 hq5 => ?_)
            obtain ⟨gi, c5, hv5, cur5, hcur5, hcs5⟩ : ∃ gi c5, v5 = .slice (some ⟨gi, 0, none⟩) (L.length + 1) c5 ∧ ∃ cur5, w5.heap[gi]? = some (.cells cur5 38 (0, 0)) ∧ (L.length + 1) * 13 ≤ cur5.size := by
              rcases ho5.2 with ⟨_, h0⟩ | ⟨gi, c5, cur5, e, _, h1, h2, _, h3, _⟩
              · omega
              · exact ⟨gi, c5, e, cur5, h1, by rw [h3]; exact Nat.mul_le_mul_right 13 h2⟩
            subst hv5
            have hk5 : Kp (fun r => d2.vv.ownBlock = some r) wkac w5 := (Kp.refl _ _).grown hg5 (fun _ _ h => by rw [HVV.out]; exact h)
            have hgi5 : d2.vv.ownBlock = some gi ∨ gi = wkac.heap.size := by
              rcases hq5 with e | e
              · exact .inl (by rw [HVV.out, ← e]; rfl)
              · injection e with e
                exact .inr e
            have HPUT := hide (HS2.out.put HQ2.out HG2.out HU2.out HKc.out HEc.out HMc.out HTc.out HC13.out hk5 ho5 hgi5 hcur5)
            have hS5 : Sst p d.vb d.vt (.slice (some ⟨gu, 0, none⟩) d2.qs.length cu2) d2.qs b (off + L.length * 13) (cx L.length) w5 := hS.kp hk5 HWP.out HWU.out HWB.out
            have HGP : Hid (gi ≠ p) := fun e => by
              rcases hgi5 with h | h
              · exact HWP.out (by rw [← e]; exact h)
              · have h1 := HKc.out.size
                have h2 := blk_lt HS2.out.fp
                omega
            have HGB : Hid (gi ≠ b) := fun e => by
              rcases hgi5 with h | h
              · exact HWB.out (by rw [← e]; exact h)
              · have h1 := HKc.out.size
                have h2 := HBL.out
                omega
            have HGU : Hid (∀ q, (Value.slice (some ⟨gu, 0, none⟩) d2.qs.length cu2).ownBlock = some q → ¬ q = gi) := fun q hq e => by
              rcases hgi5 with h | h
              · exact HWU.out q hq (by rw [e]; exact h)
              · have h1 := HKc.out.size
                have h2 := HUL.out q hq
                omega
            have HI5 : Hid ((Tryd.prog.info? 38).map (·.size) = some cc.size) := by show _ = _; rw [HC13.out]; exact infoV
            have HX5 : Hid (L.length * 13 + cc.size ≤ cur5.size) := by have := HC13.out; show _ ≤ _; omega
            have HCR := hide hcur5
            have HP5 := hide hS5.1
            have HIX : Hid ((((L.length : Nat) : Int) < ((L.length + 1 : Nat) : Int)) ∧ (L.length : Int) < (L.length : Int) + 1) := ⟨by omega, by omega⟩
            refine (Hid.out hK) _ _ hS5 (fun hS6 => ?_)
            clear hK K ho5 hg5 hq5 hk5 hgi5 hcs5 hcur5 hS hS5 HFV HKc HEc HMc HTc HZc
            have hS := hS6
            clear hS6
            (try simp only [Act.put]); (try simp only [List.setIfInBounds_toArray, List.set_cons_zero, List.set_cons_succ])
            refine heldTake 19 (.pointer (some ⟨gi, L.length * 13, none⟩)) rfl (by kernel_rfl) (by kernel_rfl) (by kernel_rfl) (fun _ _ _ h => h) rfl hS (fun wy hy => by have h0 := HIX.out.1; have h1 := HIX.out.2; first | (go_simp; done) | (go_simp; omega) | (go_simp; rfl)) ?_
            (try simp only [Act.put]); (try simp only [List.setIfInBounds_toArray, List.set_cons_zero, List.set_cons_succ])
            refine heldTake 21 _ rfl (by kernel_rfl) (by kernel_rfl) (by kernel_rfl) (fun _ _ _ h => h) rfl hS (fun wy hy => by first | (go_simp; done) | (go_simp; rfl) | rfl) ?_
            (try simp only [Act.put]); (try simp only [List.setIfInBounds_toArray, List.set_cons_zero, List.set_cons_succ])
            refine heldTake 22 _ rfl (by kernel_rfl) (by kernel_rfl) (by kernel_rfl) (fun _ _ _ h => h) rfl hS (fun wy hy => by first | (go_simp; done) | (go_simp; rfl) | rfl) ?_
            (try simp only [Act.put]); (try simp only [List.setIfInBounds_toArray, List.set_cons_zero, List.set_cons_succ])
            have hS4 : Sst p d.vb d.vt (.slice (some ⟨gu, 0, none⟩) d2.qs.length cu2) d2.qs b (off + L.length * 13) (cx L.length) (w5.setRow gi (splice cur5.toList (L.length * 13) cc.toList).toArray) := hS.kp (row_kp w5 gi _) (fun e => HGP.out e.symm) HGU.out (fun e => HGB.out e.symm)
            obtain ⟨v4a, hv4a⟩ := HP5.out
            obtain ⟨v4b, hv4b⟩ := hS4.1
            have c4a : w5.cell? ⟨p, 4, none⟩ = some v4a := blk_cell (j := 4) hv4a rfl
            have f4a : w5.frozen? ⟨p, 4, none⟩ = false := blk_frozen 4 hv4a
            have c4b : (w5.setRow gi (splice cur5.toList (L.length * 13) cc.toList).toArray).cell? ⟨p, 4, none⟩ = some v4b := blk_cell (j := 4) hv4b rfl
            have f4b : (w5.setRow gi (splice cur5.toList (L.length * 13) cc.toList).toArray).frozen? ⟨p, 4, none⟩ = false := blk_frozen 4 hv4b
            have HS4s : Hid (Sst p d.vb d.vt (.slice (some ⟨gu, 0, none⟩) d2.qs.length cu2) d2.qs b (off + L.length * 13) (cx L.length) ((w5.setRow gi (splice cur5.toList (L.length * 13) cc.toList).toArray).setCell ⟨p, 4, none⟩ (.slice (some ⟨gi, 0, none⟩) (L.length + 1) c5))) := hS4.set _ HBP.out HUP.out
            have HS5s : Hid (Sst p d.vb d.vt (.slice (some ⟨gu, 0, none⟩) d2.qs.length cu2) d2.qs b (off + L.length * 13) (cx L.length) (w5.setCell ⟨p, 4, none⟩ (.slice (some ⟨gi, 0, none⟩) (L.length + 1) c5))) := hS.set _ HBP.out HUP.out
            have HEQ := hide (row_cell_comm w5 p gi 4 (.slice (some ⟨gi, 0, none⟩) (L.length + 1) c5) (splice cur5.toList (L.length * 13) cc.toList).toArray HGP.out)
            have HCR7 : Hid ((w5.setCell ⟨p, 4, none⟩ (.slice (some ⟨gi, 0, none⟩) (L.length + 1) c5)).heap[gi]? = some (.cells cur5 38 (0, 0))) := blk_other _ _ HCR.out HGP.out
            clear hv4a hv4b
            refine wpAnyH_ready (rs := [20, 23]) (by kernel_rfl) (by simp) ?_
            refine AllReadyH.cons rfl (fun K hK => ?_) (AllReadyH.cons rfl (fun K hK => ?_) AllReadyH.nil)
            · as_aux_lemma =>
              refine step_storePart8 rfl rfl gi (L.length * 13) cur5 cc 38 rfl rfl HCR.out HI5.out HX5.out HCO.out ?_
              refine (Shut.out hK) _ _ hS4 (fun hS6 => ?_)
              clear hK K hS hS4 c4a f4a
              (try simp only [Act.put])
              generalize w5.setRow gi (splice cur5.toList (L.length * 13) cc.toList).toArray = w6 at *
              refine heldStep 23 rfl (by kernel_rfl) (fun K hK => ?_)
              go_simp
              refine (Hid.out hK) _ _ HS4s.out (fun hS7 => ?_)
              clear hK K hS6 c4b f4b
              (try simp only [Act.put])
              refine heldDone (by kernel_rfl) ?_
              clear hS7
              have HFIN : Hid (∃ d' L', L'.length = L.length + 1 ∧ Svs w (w6.setCell ⟨p, 4, none⟩ (.slice (some ⟨gi, 0, none⟩) (L.length + 1) c5)) p d d' ts L') := ⟨_, L ++ [cc], by rw [List.length_append, List.length_singleton], HPUT.out⟩
              clear HPUT
              go_wp2_with fail
              go_roundw
              case rel => exact ⟨L.length + 1, by have := HLT.out; omega, by go_num, HFIN⟩
              case measure => have := HLT.out; simp [intOf]; omega
            · as_aux_lemma =>
              go_simp
              refine (Shut.out hK) _ _ HS5s.out (fun hS6 => ?_)
              clear hK K hS hS4 c4a f4a c4b f4b
              (try simp only [Act.put])
              refine heldStep 20 rfl (by kernel_rfl) (fun K hK => ?_)
              refine step_storePart8 rfl rfl gi (L.length * 13) cur5 cc 38 rfl rfl HCR7.out HI5.out HX5.out HCO.out ?_
              refine (Hid.out hK) _ _ (by rw [HEQ.out]; exact HS4s.out) (fun hS7 => ?_)
              clear hK K hS6
              (try simp only [Act.put])
              refine heldDone (by kernel_rfl) ?_
              clear hS7
              have HFIN : Hid (∃ d' L', L'.length = L.length + 1 ∧ Svs w ((w5.setCell ⟨p, 4, none⟩ (.slice (some ⟨gi, 0, none⟩) (L.length + 1) c5)).setRow gi (splice cur5.toList (L.length * 13) cc.toList).toArray) p d d' ts L') := ⟨_, L ++ [cc], by rw [List.length_append, List.length_singleton], by rw [HEQ.out]; exact HPUT.out⟩
              clear HPUT
              go_wp2_with fail
              go_roundw
              case rel => exact ⟨L.length + 1, by have := HLT.out; omega, by go_num, HFIN⟩
              case measure => have := HLT.out; simp [intOf]; omega

      · have g2 : ((L.length : Int) == (d1.qs.length : Int)) = false := beq_eq_false_iff_ne.2 (by omega)
        have HQ2 : Hid (L.length < d1.qs.length) := by show _ < _; omega
        have HS2 := HS1
        clear HS1 hq hle hlt hi
        go_upto_region 7 with fail
        have g3 : (L.length : Int) < (d1.qs.length : Int) := by have := HQ2.out; omega
        clear q5 f5 g2
        generalize d1 = d2 at *
        generalize wr = wd at *
        obtain ⟨g, hg⟩ : ∃ g, d2.qs[L.length]? = some g := ⟨_, List.getElem?_eq_getElem HQ2.out⟩
        obtain ⟨u, hu⟩ : ∃ u, ts[L.length]? = some u := ⟨_, List.getElem?_eq_getElem HLT.out⟩
        obtain ⟨b, off, rfl, hMb, hcc⟩ := HA.out.resolve_left (fun h => by have := HLT.out; rw [h] at this; simp at this)
        obtain ⟨av2, cv2, hvv2⟩ := row_slice HS2.out.fv
        obtain ⟨gu, cu2, hvu2⟩ : ∃ gu cu2, d2.vu = .slice (some ⟨gu, 0, none⟩) d2.qs.length cu2 := by
          have hq := HQ2.out
          rcases HS2.out.fu.2 with ⟨_, h0⟩ | ⟨g', c', cur, e, _⟩
          · omega
          · exact ⟨g', c', e⟩
        have HG2 := hide hg
        have HU2 := hide hu
        have HVV := hide hvv2
        have HVU := hide hvu2
        have HUM : Hid (u ∈ ts) := List.mem_of_getElem? hu
        have HMQ : Hid (tmuch u ≤ 100000) := HMU.out u HUM.out
        have HBL0 : Hid (b < w.heap.size ∨ (cx L.length).size = 0) := by
          show _ ∨ _
          rcases Nat.eq_zero_or_pos (cx L.length).size with e | e
          · exact .inr e
          · exact .inl (cell_lt6 (hcc L.length HLT.out 0 _ (Array.getElem?_eq_getElem e)))
        have HCX : Hid ((cx L.length).size = 13) := (HTS.out L.length u hu).tin.size13
        have HBW : Hid (b < w.heap.size) := HBL0.out.resolve_right (by have := HCX.out; omega)
        have HBL : Hid (b < wd.heap.size) := Nat.lt_of_lt_of_le HBW.out HS2.out.z
        have HNI : Hid (∀ q, d2.inn p q → q ≠ b) := fun q hq e => by
          rcases HS2.out.nw q hq with h1 | h1
          · exact hMb (by rw [← e]; exact HIN.out q h1)
          · have := HBW.out
            omega
        have HNP : Hid (¬ d2.Ms L.length p) := fun e => (HS2.out.ms L.length HQ2.out p e).1 rfl
        have HNU : Hid (∀ q, (Value.slice (some ⟨gu, 0, none⟩) d2.qs.length cu2).ownBlock = some q → ¬ d2.Ms L.length q) := fun q hq e => (HS2.out.ms L.length HQ2.out q e).2.2 (by rw [hvu2]; exact hq)
        have HNV : Hid (∀ q, d2.vv.ownBlock = some q → ¬ d2.Ms L.length q) := fun q hq e => (HS2.out.ms L.length HQ2.out q e).2.1 hq
        have HNB : Hid (¬ d2.Ms L.length b) := fun e => HNI.out b (.inr (.inr (.inr ⟨_, HQ2.out, e⟩))) rfl
        have HWP : Hid (¬ d2.vv.ownBlock = some p) := own_not HS2.out.fv HS2.out.fp (by decide)
        have HWU : Hid (∀ q, (Value.slice (some ⟨gu, 0, none⟩) d2.qs.length cu2).ownBlock = some q → ¬ d2.vv.ownBlock = some q) := fun q hq e => own_apart HS2.out.fu HS2.out.fv (by decide) (by rw [hvu2]; exact hq) e
        have HWB : Hid (¬ d2.vv.ownBlock = some b) := fun e => HNI.out b (.inr (.inl e)) rfl
        have HUL : Hid (∀ q, (Value.slice (some ⟨gu, 0, none⟩) d2.qs.length cu2).ownBlock = some q → q < wd.heap.size) := fun q hq => (HS2.out.fu.lt q (by rw [hvu2]; exact hq)).2
        have HBP : Hid (b ≠ p) := fun e => HNI.out p (.inl rfl) e.symm
        have HUP : Hid (∀ q, (Value.slice (some ⟨gu, 0, none⟩) d2.qs.length cu2).ownBlock = some q → ¬ q = p) := fun q hq e => own_not HS2.out.fu HS2.out.fp (by decide) (by rw [hvu2, hq, e])
        have HP4 : Hid (∀ wy, Kp (d2.Ms L.length) wd wy → wy.cell? ⟨p, 4, none⟩ = some (.slice av2 L.length cv2)) := fun wy hk => by rw [← HVV.out]; exact blk_cell (j := 4) ((hk.block p (blk_lt HS2.out.fp) HNP.out).trans HS2.out.fp) rfl
        have HTI : Hid (∀ wy, Kp (d2.Ms L.length) wd wy → Tis wy (d2.Ms L.length) u (cx L.length)) := fun wy hk => by
          have h1 := ((HTS.out L.length u hu).widen.kp (HS2.out.k.mono (fun q _ e => .inl (HIN.out q e)))).mono (T := d2.Ms L.length) (fun q hq => (HS2.out.nw q (.inr (.inr (.inr ⟨_, HQ2.out, hq⟩)))).imp (HIN.out q) id)
          exact h1.kp hk
        have HS0 : Hid (Sst p d.vb d.vt (.slice (some ⟨gu, 0, none⟩) d2.qs.length cu2) d2.qs b (off + L.length * 13) (cx L.length) wd) := by
          refine ⟨⟨d2.vv, ?_⟩, ?_, fun j x hx => ?_⟩
          · have h1 := HS2.out.fp
            rw [hvu2] at h1
            exact h1
          · have h1 := HS2.out.fu
            rw [hvu2] at h1
            exact h1
          · exact HS2.out.k.cell (hcc L.length HLT.out j x hx) (fun e => hMb (HIN.out b e))
        clear hg hu hMb hcc hvv2 hvu2 HBL0
        go_wp2_with fail
        refine heldStart (S := Sst p d.vb d.vt (.slice (some ⟨gu, 0, none⟩) d2.qs.length cu2) d2.qs b (off + L.length * 13) (cx L.length)) (by kernel_rfl) ?_
        have HB1 : Hid (Below wd.heap.size wd wd.drew) := by refine Below.drew ?_; exact Below.refl _ _
        have HKc : Hid (Kp (d2.Ms L.length) wd wd.drew) := Kp.of_below HB1.out
        have hS : Sst p d.vb d.vt (.slice (some ⟨gu, 0, none⟩) d2.qs.length cu2) d2.qs b (off + L.length * 13) (cx L.length) wd.drew := HS0.out.kp (Kp.of_below (S := fun _ => False) HB1.out) (fun e => e) (fun _ _ e => e) (fun e => e)
        have HEc := hide ((HS2.out.c L.length g HG2.out).next HB1.out)
        clear HB1 HS0
        generalize wd.drew = wk at *
        refine heldTake 0 _ rfl (by kernel_rfl) (by kernel_rfl) (by kernel_rfl) (fun _ _ _ h => h) rfl hS (fun wy hy => by first | (go_simp; done) | (go_simp; rfl) | rfl) ?_
        (try simp only [Act.put]); (try simp only [List.setIfInBounds_toArray, List.set_cons_zero, List.set_cons_succ])
        refine heldTake 1 _ rfl (by kernel_rfl) (by kernel_rfl) (by kernel_rfl) (fun _ _ _ h => h) rfl hS (fun wy hy => by first | (go_simp; done) | (go_simp; rfl) | rfl) ?_
        (try simp only [Act.put]); (try simp only [List.setIfInBounds_toArray, List.set_cons_zero, List.set_cons_succ])
        refine heldTake 2 _ rfl (by kernel_rfl) (by kernel_rfl) (by kernel_rfl) (fun _ _ _ h => h) rfl hS (fun wy hy => by first | (go_simp; done) | (go_simp; rfl) | rfl) ?_
        (try simp only [Act.put]); (try simp only [List.setIfInBounds_toArray, List.set_cons_zero, List.set_cons_succ])
        refine heldTake 4 _ rfl (by kernel_rfl) (by kernel_rfl) (by kernel_rfl) (fun _ _ _ h => h) rfl hS (fun wy hy => by first | (go_simp; done) | (go_simp; rfl) | rfl) ?_
        (try simp only [Act.put]); (try simp only [List.setIfInBounds_toArray, List.set_cons_zero, List.set_cons_succ])
        refine heldTake 5 _ rfl (by kernel_rfl) (by kernel_rfl) (by kernel_rfl) (fun _ _ _ h => h) rfl hS (fun wy hy => by first | (go_simp; done) | (go_simp; rfl) | rfl) ?_
        (try simp only [Act.put]); (try simp only [List.setIfInBounds_toArray, List.set_cons_zero, List.set_cons_succ])
        refine heldTake 6 _ rfl (by kernel_rfl) (by kernel_rfl) (by kernel_rfl) (fun _ _ _ h => h) rfl hS (fun wy hy => by first | (go_simp; done) | (go_simp; rfl) | rfl) ?_
        (try simp only [Act.put]); (try simp only [List.setIfInBounds_toArray, List.set_cons_zero, List.set_cons_succ])
        refine heldTake 7 _ rfl (by kernel_rfl) (by kernel_rfl) (by kernel_rfl) (fun _ _ _ h => h) rfl hS (fun wy hy => by obtain ⟨v4, h4⟩ := hy.1; have h0 : wy.cell? ⟨p, 5, none⟩ = some (.slice (some ⟨gu, 0, none⟩) d2.qs.length cu2) := blk_cell (j := 5) h4 rfl; first | (go_simp; done) | (go_simp; rfl) | rfl) ?_
        (try simp only [Act.put]); (try simp only [List.setIfInBounds_toArray, List.set_cons_zero, List.set_cons_succ])
        refine heldTake 8 _ rfl (by kernel_rfl) (by kernel_rfl) (by kernel_rfl) (fun _ _ _ h => h) rfl hS (fun wy hy => by first | (go_simp; done) | (go_simp; rfl) | rfl) ?_
        (try simp only [Act.put]); (try simp only [List.setIfInBounds_toArray, List.set_cons_zero, List.set_cons_succ])
        refine heldTake 9 _ rfl (by kernel_rfl) (by kernel_rfl) (by kernel_rfl) (fun _ _ _ h => h) rfl hS (fun wy hy => by first | (go_simp; done) | (go_simp; rfl) | rfl) ?_
        (try simp only [Act.put]); (try simp only [List.setIfInBounds_toArray, List.set_cons_zero, List.set_cons_succ])
        refine heldTake 10 _ rfl (by kernel_rfl) (by kernel_rfl) (by kernel_rfl) (fun _ _ _ h => h) rfl hS (fun wy hy => by have h0 : wy.cell? ⟨gu, L.length, none⟩ = some (.pointer (some ⟨g, 0, none⟩)) := (own_cell hy.2.1 (j := L.length) (by simp [sps, HG2.out])).1; first | (go_simp; done) | (go_simp; rfl) | rfl) ?_
        (try simp only [Act.put]); (try simp only [List.setIfInBounds_toArray, List.set_cons_zero, List.set_cons_succ])
        refine heldTake 11 _ rfl (by kernel_rfl) (by kernel_rfl) (by kernel_rfl) (fun _ _ _ h => h) rfl hS (fun wy hy => by first | (go_simp; done) | (go_simp; rfl) | rfl) ?_
        (try simp only [Act.put]); (try simp only [List.setIfInBounds_toArray, List.set_cons_zero, List.set_cons_succ])
        refine heldTake 12 _ rfl (by kernel_rfl) (by kernel_rfl) (by kernel_rfl) (fun _ _ _ h => h) rfl hS (fun wy hy => by first | (go_simp; done) | (go_simp; rfl) | rfl) ?_
        (try simp only [Act.put]); (try simp only [List.setIfInBounds_toArray, List.set_cons_zero, List.set_cons_succ])
        refine heldTake 13 _ rfl (by kernel_rfl) (by kernel_rfl) (by kernel_rfl) (fun _ _ _ h => h) rfl hS (fun wy hy => by first | (go_simp; done) | (go_simp; rfl) | rfl) ?_
        (try simp only [Act.put]); (try simp only [List.setIfInBounds_toArray, List.set_cons_zero, List.set_cons_succ])
        refine heldTake 14 _ rfl (by kernel_rfl) (by kernel_rfl) (by kernel_rfl) (fun _ _ _ h => h) rfl hS (fun wy hy => exec_valAt (g := b) (off := off + L.length * 13) (cs := cx L.length) rfl rfl HCX.out hy.2.2) ?_
        (try simp only [Act.put]); (try simp only [List.setIfInBounds_toArray, List.set_cons_zero, List.set_cons_succ])
        refine wpAnyH_ready (rs := [3, 15, 17]) (by kernel_rfl) (by simp) ?_
        refine AllReadyH.cons rfl (fun K hK => ?_) (AllReadyH.cons rfl (fun K hK => ?_) (AllReadyH.cons rfl (fun K hK => ?_) AllReadyH.nil))
        · as_aux_lemma =>
          have x4 : wk.cell? ⟨p, 4, none⟩ = some (.slice av2 L.length cv2) := HP4.out wk HKc.out
          go_simp
          refine (Shut.out hK) _ _ hS (fun hS2 => ?_)
          clear hK K hS2 x4
          (try simp only [Act.put]); (try simp only [List.setIfInBounds_toArray, List.set_cons_zero, List.set_cons_succ])
          refine heldTake 16 _ rfl (by kernel_rfl) (by kernel_rfl) (by kernel_rfl) (fun _ _ _ h => h) rfl hS (fun wy hy => by first | (go_simp; done) | (go_simp; rfl) | rfl) ?_
          (try simp only [Act.put]); (try simp only [List.setIfInBounds_toArray, List.set_cons_zero, List.set_cons_succ])
          refine wpAnyH_ready (rs := [15, 17]) (by kernel_rfl) (by simp) ?_
          refine AllReadyH.cons rfl (fun K hK => ?_) (AllReadyH.cons rfl (fun K hK => ?_) AllReadyH.nil)
          · as_aux_lemma =>
            have hcl := HIH.out u HUM.out wk g (d2.Ms L.length) (cx L.length) HEc.out (HTI.out wk HKc.out) HMQ.out
            go_simp
            refine hcl.mono ?_
            rintro e wkc ⟨cc, M2, rfl, hse, hsm, hsk, hst⟩
            have HKn := hide (HKc.out.trans hsk (fun _ _ e => e))
            have hSn : Sst p d.vb d.vt (.slice (some ⟨gu, 0, none⟩) d2.qs.length cu2) d2.qs b (off + L.length * 13) (cx L.length) wkc := hS.kp hsk HNP.out HNU.out HNB.out
            have HEn := hide hse
            have HMn : Hid (∀ x, M2 x → d2.Ms L.length x ∨ wd.heap.size ≤ x) := fun x hx => (hsm x hx).imp id (fun e => Nat.le_trans HKc.out.size e)
            have HTn := hide hst
            refine (Shut.out hK) _ _ hSn (fun hS2 => ?_)
            clear hK K hS HKc HEc hcl hse hsm hsk hst 
            have hS := hS2
            clear hS2 hSn
            (try simp only [Act.put]); (try simp only [List.setIfInBounds_toArray, List.set_cons_zero, List.set_cons_succ])
            have HKc := HKn
            have HEc := HEn
            have HMc := HMn
            have HTc := HTn
            clear HKn HEn HMn HTn
            refine heldStep 17 rfl (by kernel_rfl) (fun K hK => ?_)
            have HZn : Hid ((wkc.alloc (.cells zv 38)).heap[wkc.heap.size]? = some (.cells zv 38 (0, 0)) ∧ wd.heap.size ≤ wkc.heap.size) := ⟨heap_alloc_new wkc _, HKc.out.size⟩
            have HBA := hide (below_alloc4 wkc (.cells zv 38))
            have hSn : Sst p d.vb d.vt (.slice (some ⟨gu, 0, none⟩) d2.qs.length cu2) d2.qs b (off + L.length * 13) (cx L.length) (wkc.alloc (.cells zv 38)) := hS.kp (Kp.of_below (S := fun _ => False) HBA.out) (fun e => e) (fun _ _ e => e) (fun e => e)
            have HKn := hide (HKc.out.trans (Kp.of_below (S := d2.Ms L.length) HBA.out) (fun _ _ e => e))
            have HEn := hide (HEc.out.next HBA.out)
            have HTn := hide (HTc.out.kp (Kp.of_below (S := fun _ => False) HBA.out) (fun _ _ e => e))
            refine step_val18 rfl rfl zv rfl rfl ?_
            refine (Hid.out hK) _ (wkc.alloc (.cells zv 38)) hSn (fun hS2 => ?_)
            clear hK K hS HKc HEc HTc
            have hS := hS2
            clear hS2 hSn
            (try simp only [Act.put]); (try simp only [List.setIfInBounds_toArray, List.set_cons_zero, List.set_cons_succ])
            generalize hza : wkc.heap.size = za at *
            clear hza
            generalize wkc.alloc (.cells zv 38) = wkca at *
            have HKc := HKn
            have HEc := HEn
            have HZc := HZn
            have HTc := HTn
            clear HTn
            clear HKn HEn HZn HBA
            have HC13 := hide HTc.out.tin.size13
            have HCO : Hid (∀ v ∈ cc.toList, v.oneCell' = true) := fun v hv => by
              have h1 := HTc.out.tin.all1
              rw [Array.all_eq_true'] at h1
              exact h1 v (by simpa using hv)
            have HFV : Hid (wkca.ownsRow 0 38 13 (.slice av2 L.length cv2) L.length (vfl L)) := by
              have h := HKc.out.owns HS2.out.fv HNV.out
              rw [HVV.out] at h
              exact h
            refine heldStep 18 rfl (by kernel_rfl) (fun K hK => ?_)
            refine step_append_val8 rfl _ _ rfl 0 (.slice av2 L.length cv2) L.length (vfl L) rfl HFV.out za zv zv_one8 rfl HZc.out.1 (by have := HLN.out; omega) (Nat.zero_le _) (fun v5 w5 ho5 hg5 hq5 => ?_)
            obtain ⟨gi, c5, hv5, cur5, hcur5, hcs5⟩ : ∃ gi c5, v5 = .slice (some ⟨gi, 0, none⟩) (L.length + 1) c5 ∧ ∃ cur5, w5.heap[gi]? = some (.cells cur5 38 (0, 0)) ∧ (L.length + 1) * 13 ≤ cur5.size := by
              rcases ho5.2 with ⟨_, h0⟩ | ⟨gi, c5, cur5, e, _, h1, h2, _, h3, _⟩
              · omega
              · exact ⟨gi, c5, e, cur5, h1, by rw [h3]; exact Nat.mul_le_mul_right 13 h2⟩
            subst hv5
            have hk5 : Kp (fun r => d2.vv.ownBlock = some r) wkca w5 := (Kp.refl _ _).grown hg5 (fun _ _ h => by rw [HVV.out]; exact h)
            have hgi5 : d2.vv.ownBlock = some gi ∨ gi = wkca.heap.size := by
              rcases hq5 with e | e
              · exact .inl (by rw [HVV.out, ← e]; rfl)
              · injection e with e
                exact .inr e
            have HPUT := hide (HS2.out.put HQ2.out HG2.out HU2.out HKc.out HEc.out HMc.out HTc.out HC13.out hk5 ho5 hgi5 hcur5)
            have hS5 : Sst p d.vb d.vt (.slice (some ⟨gu, 0, none⟩) d2.qs.length cu2) d2.qs b (off + L.length * 13) (cx L.length) w5 := hS.kp hk5 HWP.out HWU.out HWB.out
            have HGP : Hid (gi ≠ p) := fun e => by
              rcases hgi5 with h | h
              · exact HWP.out (by rw [← e]; exact h)
              · have h1 := HKc.out.size
                have h2 := blk_lt HS2.out.fp
                omega
            have HGB : Hid (gi ≠ b) := fun e => by
              rcases hgi5 with h | h
              · exact HWB.out (by rw [← e]; exact h)
              · have h1 := HKc.out.size
                have h2 := HBL.out
                omega
            have HGU : Hid (∀ q, (Value.slice (some ⟨gu, 0, none⟩) d2.qs.length cu2).ownBlock = some q → ¬ q = gi) := fun q hq e => by
              rcases hgi5 with h | h
              · exact HWU.out q hq (by rw [e]; exact h)
              · have h1 := HKc.out.size
                have h2 := HUL.out q hq
                omega
            have HI5 : Hid ((Tryd.prog.info? 38).map (·.size) = some cc.size) := by show _ = _; rw [HC13.out]; exact infoV
            have HX5 : Hid (L.length * 13 + cc.size ≤ cur5.size) := by have := HC13.out; show _ ≤ _; omega
            have HCR := hide hcur5
            have HP5 := hide hS5.1
            have HIX : Hid ((((L.length : Nat) : Int) < ((L.length + 1 : Nat) : Int)) ∧ (L.length : Int) < (L.length : Int) + 1) := ⟨by omega, by omega⟩
            refine (Hid.out hK) _ _ hS5 (fun hS6 => ?_)
            clear hK K ho5 hg5 hq5 hk5 hgi5 hcs5 hcur5 hS hS5 HFV HKc HEc HMc HTc HZc
            have hS := hS6
            clear hS6
            (try simp only [Act.put]); (try simp only [List.setIfInBounds_toArray, List.set_cons_zero, List.set_cons_succ])
            refine heldTake 19 (.pointer (some ⟨gi, L.length * 13, none⟩)) rfl (by kernel_rfl) (by kernel_rfl) (by kernel_rfl) (fun _ _ _ h => h) rfl hS (fun wy hy => by have h0 := HIX.out.1; have h1 := HIX.out.2; first | (go_simp; done) | (go_simp; omega) | (go_simp; rfl)) ?_
            (try simp only [Act.put]); (try simp only [List.setIfInBounds_toArray, List.set_cons_zero, List.set_cons_succ])
            refine heldTake 21 _ rfl (by kernel_rfl) (by kernel_rfl) (by kernel_rfl) (fun _ _ _ h => h) rfl hS (fun wy hy => by first | (go_simp; done) | (go_simp; rfl) | rfl) ?_
            (try simp only [Act.put]); (try simp only [List.setIfInBounds_toArray, List.set_cons_zero, List.set_cons_succ])
            refine heldTake 22 _ rfl (by kernel_rfl) (by kernel_rfl) (by kernel_rfl) (fun _ _ _ h => h) rfl hS (fun wy hy => by first | (go_simp; done) | (go_simp; rfl) | rfl) ?_
            (try simp only [Act.put]); (try simp only [List.setIfInBounds_toArray, List.set_cons_zero, List.set_cons_succ])
            have hS4 : Sst p d.vb d.vt (.slice (some ⟨gu, 0, none⟩) d2.qs.length cu2) d2.qs b (off + L.length * 13) (cx L.length) (w5.setRow gi (splice cur5.toList (L.length * 13) cc.toList).toArray) := hS.kp (row_kp w5 gi _) (fun e => HGP.out e.symm) HGU.out (fun e => HGB.out e.symm)
            obtain ⟨v4a, hv4a⟩ := HP5.out
            obtain ⟨v4b, hv4b⟩ := hS4.1
            have c4a : w5.cell? ⟨p, 4, none⟩ = some v4a := blk_cell (j := 4) hv4a rfl
            have f4a : w5.frozen? ⟨p, 4, none⟩ = false := blk_frozen 4 hv4a
            have c4b : (w5.setRow gi (splice cur5.toList (L.length * 13) cc.toList).toArray).cell? ⟨p, 4, none⟩ = some v4b := blk_cell (j := 4) hv4b rfl
            have f4b : (w5.setRow gi (splice cur5.toList (L.length * 13) cc.toList).toArray).frozen? ⟨p, 4, none⟩ = false := blk_frozen 4 hv4b
            have HS4s : Hid (Sst p d.vb d.vt (.slice (some ⟨gu, 0, none⟩) d2.qs.length cu2) d2.qs b (off + L.length * 13) (cx L.length) ((w5.setRow gi (splice cur5.toList (L.length * 13) cc.toList).toArray).setCell ⟨p, 4, none⟩ (.slice (some ⟨gi, 0, none⟩) (L.length + 1) c5))) := hS4.set _ HBP.out HUP.out
            have HS5s : Hid (Sst p d.vb d.vt (.slice (some ⟨gu, 0, none⟩) d2.qs.length cu2) d2.qs b (off + L.length * 13) (cx L.length) (w5.setCell ⟨p, 4, none⟩ (.slice (some ⟨gi, 0, none⟩) (L.length + 1) c5))) := hS.set _ HBP.out HUP.out
            have HEQ := hide (row_cell_comm w5 p gi 4 (.slice (some ⟨gi, 0, none⟩) (L.length + 1) c5) (splice cur5.toList (L.length * 13) cc.toList).toArray HGP.out)
            have HCR7 : Hid ((w5.setCell ⟨p, 4, none⟩ (.slice (some ⟨gi, 0, none⟩) (L.length + 1) c5)).heap[gi]? = some (.cells cur5 38 (0, 0))) := blk_other _ _ HCR.out HGP.out
            clear hv4a hv4b
            refine wpAnyH_ready (rs := [20, 23]) (by kernel_rfl) (by simp) ?_
            refine AllReadyH.cons rfl (fun K hK => ?_) (AllReadyH.cons rfl (fun K hK => ?_) AllReadyH.nil)
            · as_aux_lemma =>
              refine step_storePart8 rfl rfl gi (L.length * 13) cur5 cc 38 rfl rfl HCR.out HI5.out HX5.out HCO.out ?_
              refine (Shut.out hK) _ _ hS4 (fun hS6 => ?_)
              clear hK K hS hS4 c4a f4a
              (try simp only [Act.put])
              generalize w5.setRow gi (splice cur5.toList (L.length * 13) cc.toList).toArray = w6 at *
              refine heldStep 23 rfl (by kernel_rfl) (fun K hK => ?_)
              go_simp
              refine (Hid.out hK) _ _ HS4s.out (fun hS7 => ?_)
              clear hK K hS6 c4b f4b
              (try simp only [Act.put])
              refine heldDone (by kernel_rfl) ?_
              clear hS7
              have HFIN : Hid (∃ d' L', L'.length = L.length + 1 ∧ Svs w (w6.setCell ⟨p, 4, none⟩ (.slice (some ⟨gi, 0, none⟩) (L.length + 1) c5)) p d d' ts L') := ⟨_, L ++ [cc], by rw [List.length_append, List.length_singleton], HPUT.out⟩
              clear HPUT
              go_wp2_with fail
              go_roundw
              case rel => exact ⟨L.length + 1, by have := HLT.out; omega, by go_num, HFIN⟩
              case measure => have := HLT.out; simp [intOf]; omega
            · as_aux_lemma =>
              go_simp
              refine (Shut.out hK) _ _ HS5s.out (fun hS6 => ?_)
              clear hK K hS hS4 c4a f4a c4b f4b
              (try simp only [Act.put])
              refine heldStep 20 rfl (by kernel_rfl) (fun K hK => ?_)
              refine step_storePart8 rfl rfl gi (L.length * 13) cur5 cc 38 rfl rfl HCR7.out HI5.out HX5.out HCO.out ?_
              refine (Hid.out hK) _ _ (by rw [HEQ.out]; exact HS4s.out) (fun hS7 => ?_)
              clear hK K hS6
              (try simp only [Act.put])
              refine heldDone (by kernel_rfl) ?_
              clear hS7
              have HFIN : Hid (∃ d' L', L'.length = L.length + 1 ∧ Svs w ((w5.setCell ⟨p, 4, none⟩ (.slice (some ⟨gi, 0, none⟩) (L.length + 1) c5)).setRow gi (splice cur5.toList (L.length * 13) cc.toList).toArray) p d d' ts L') := ⟨_, L ++ [cc], by rw [List.length_append, List.length_singleton], by rw [HEQ.out]; exact HPUT.out⟩
              clear HPUT
              go_wp2_with fail
              go_roundw
              case rel => exact ⟨L.length + 1, by have := HLT.out; omega, by go_num, HFIN⟩
              case measure => have := HLT.out; simp [intOf]; omega
          · as_aux_lemma =>
            have HZn : Hid ((wk.alloc (.cells zv 38)).heap[wk.heap.size]? = some (.cells zv 38 (0, 0)) ∧ wd.heap.size ≤ wk.heap.size) := ⟨heap_alloc_new wk _, HKc.out.size⟩
            have HBA := hide (below_alloc4 wk (.cells zv 38))
            have hSn : Sst p d.vb d.vt (.slice (some ⟨gu, 0, none⟩) d2.qs.length cu2) d2.qs b (off + L.length * 13) (cx L.length) (wk.alloc (.cells zv 38)) := hS.kp (Kp.of_below (S := fun _ => False) HBA.out) (fun e => e) (fun _ _ e => e) (fun e => e)
            have HKn := hide (HKc.out.trans (Kp.of_below (S := d2.Ms L.length) HBA.out) (fun _ _ e => e))
            have HEn := hide (HEc.out.next HBA.out)
            refine step_val18 rfl rfl zv rfl rfl ?_
            refine (Shut.out hK) _ (wk.alloc (.cells zv 38)) hSn (fun hS2 => ?_)
            clear hK K hS HKc HEc 
            have hS := hS2
            clear hS2 hSn
            (try simp only [Act.put]); (try simp only [List.setIfInBounds_toArray])
            generalize hza : wk.heap.size = za at *
            clear hza
            generalize wk.alloc (.cells zv 38) = wka at *
            have HKc := HKn
            have HEc := HEn
            have HZc := HZn
            clear HKn HEn HZn HBA
            refine heldStep 15 rfl (by kernel_rfl) (fun K hK => ?_)
            have hcl := HIH.out u HUM.out wka g (d2.Ms L.length) (cx L.length) HEc.out (HTI.out wka HKc.out) HMQ.out
            go_simp
            refine hcl.mono ?_
            rintro e wkac ⟨cc, M2, rfl, hse, hsm, hsk, hst⟩
            have HKn := hide (HKc.out.trans hsk (fun _ _ e => e))
            have hSn : Sst p d.vb d.vt (.slice (some ⟨gu, 0, none⟩) d2.qs.length cu2) d2.qs b (off + L.length * 13) (cx L.length) wkac := hS.kp hsk HNP.out HNU.out HNB.out
            have HEn := hide hse
            have HMn : Hid (∀ x, M2 x → d2.Ms L.length x ∨ wd.heap.size ≤ x) := fun x hx => (hsm x hx).imp id (fun e => Nat.le_trans HKc.out.size e)
            have HTn := hide hst
            have HZn : Hid (wkac.heap[za]? = some (.cells zv 38 (0, 0)) ∧ wd.heap.size ≤ za) := ⟨(hsk.block _ (blk_lt HZc.out.1) (fun e => by have h1 := HS2.out.lt HQ2.out e; have h2 := HZc.out.2; omega)).trans HZc.out.1, HZc.out.2⟩
            refine (Hid.out hK) _ _ hSn (fun hS2 => ?_)
            clear hK K hS HKc HEc hcl hse hsm hsk hst HZc
            have hS := hS2
            clear hS2 hSn
            (try simp only [Act.put]); (try simp only [List.setIfInBounds_toArray, List.set_cons_zero, List.set_cons_succ])
            have HKc := HKn
            have HEc := HEn
            have HMc := HMn
            have HTc := HTn
            have HZc := HZn
            clear HZn
            clear HKn HEn HMn HTn
            have HC13 := hide HTc.out.tin.size13
            have HCO : Hid (∀ v ∈ cc.toList, v.oneCell' = true) := fun v hv => by
              have h1 := HTc.out.tin.all1
              rw [Array.all_eq_true'] at h1
              exact h1 v (by simpa using hv)
            have HFV : Hid (wkac.ownsRow 0 38 13 (.slice av2 L.length cv2) L.length (vfl L)) := by
              have h := HKc.out.owns HS2.out.fv HNV.out
              rw [HVV.out] at h
              exact h
            refine heldStep 18 rfl (by kernel_rfl) (fun K hK => ?_)
            refine step_append_val8 rfl _ _ rfl 0 (.slice av2 L.length cv2) L.length (vfl L) rfl HFV.out za zv zv_one8 rfl HZc.out.1 (by have := HLN.out; omega) (Nat.zero_le _) (fun v5 w5 ho5 hg5 hq5 => ?_)
            obtain ⟨gi, c5, hv5, cur5, hcur5, hcs5⟩ : ∃ gi c5, v5 = .slice (some ⟨gi, 0, none⟩) (L.length + 1) c5 ∧ ∃ cur5, w5.heap[gi]? = some (.cells cur5 38 (0, 0)) ∧ (L.length + 1) * 13 ≤ cur5.size := by
              rcases ho5.2 with ⟨_, h0⟩ | ⟨gi, c5, cur5, e, _, h1, h2, _, h3, _⟩
              · omega
              · exact ⟨gi, c5, e, cur5, h1, by rw [h3]; exact Nat.mul_le_mul_right 13 h2⟩
            subst hv5
            have hk5 : Kp (fun r => d2.vv.ownBlock = some r) wkac w5 := (Kp.refl _ _).grown hg5 (fun _ _ h => by rw [HVV.out]; exact h)
            have hgi5 : d2.vv.ownBlock = some gi ∨ gi = wkac.heap.size := by
              rcases hq5 with e | e
              · exact .inl (by rw [HVV.out, ← e]; rfl)
              · injection e with e
                exact .inr e
            have HPUT := hide (HS2.out.put HQ2.out HG2.out HU2.out HKc.out HEc.out HMc.out HTc.out HC13.out hk5 ho5 hgi5 hcur5)
            have hS5 : Sst p d.vb d.vt (.slice (some ⟨gu, 0, none⟩) d2.qs.length cu2) d2.qs b (off + L.length * 13) (cx L.length) w5 := hS.kp hk5 HWP.out HWU.out HWB.out
            have HGP : Hid (gi ≠ p) := fun e => by
              rcases hgi5 with h | h
              · exact HWP.out (by rw [← e]; exact h)
              · have h1 := HKc.out.size
                have h2 := blk_lt HS2.out.fp
                omega
            have HGB : Hid (gi ≠ b) := fun e => by
              rcases hgi5 with h | h
              · exact HWB.out (by rw [← e]; exact h)
              · have h1 := HKc.out.size
                have h2 := HBL.out
                omega
            have HGU : Hid (∀ q, (Value.slice (some ⟨gu, 0, none⟩) d2.qs.length cu2).ownBlock = some q → ¬ q = gi) := fun q hq e => by
              rcases hgi5 with h | h
              · exact HWU.out q hq (by rw [e]; exact h)
              · have h1 := HKc.out.size
                have h2 := HUL.out q hq
                omega
            have HI5 : Hid ((Tryd.prog.info? 38).map (·.size) = some cc.size) := by show _ = _; rw [HC13.out]; exact infoV
            have HX5 : Hid (L.length * 13 + cc.size ≤ cur5.size) := by have := HC13.out; show _ ≤ _; omega
            have HCR := hide hcur5
            have HP5 := hide hS5.1
            have HIX : Hid ((((L.length : Nat) : Int) < ((L.length + 1 : Nat) : Int)) ∧ (L.length : Int) < (L.length : Int) + 1) := ⟨by omega, by omega⟩
            refine (Hid.out hK) _ _ hS5 (fun hS6 => ?_)
            clear hK K ho5 hg5 hq5 hk5 hgi5 hcs5 hcur5 hS hS5 HFV HKc HEc HMc HTc HZc
            have hS := hS6
            clear hS6
            (try simp only [Act.put]); (try simp only [List.setIfInBounds_toArray, List.set_cons_zero, List.set_cons_succ])
            refine heldTake 19 (.pointer (some ⟨gi, L.length * 13, none⟩)) rfl (by kernel_rfl) (by kernel_rfl) (by kernel_rfl) (fun _ _ _ h => h) rfl hS (fun wy hy => by have h0 := HIX.out.1; have h1 := HIX.out.2; first | (go_simp; done) | (go_simp; omega) | (go_simp; rfl)) ?_
            (try simp only [Act.put]); (try simp only [List.setIfInBounds_toArray, List.set_cons_zero, List.set_cons_succ])
            refine heldTake 21 _ rfl (by kernel_rfl) (by kernel_rfl) (by kernel_rfl) (fun _ _ _ h => h) rfl hS (fun wy hy => by first | (go_simp; done) | (go_simp; rfl) | rfl) ?_
            (try simp only [Act.put]); (try simp only [List.setIfInBounds_toArray, List.set_cons_zero, List.set_cons_succ])
            refine heldTake 22 _ rfl (by kernel_rfl) (by kernel_rfl) (by kernel_rfl) (fun _ _ _ h => h) rfl hS (fun wy hy => by first | (go_simp; done) | (go_simp; rfl) | rfl) ?_
            (try simp only [Act.put]); (try simp only [List.setIfInBounds_toArray, List.set_cons_zero, List.set_cons_succ])
            have hS4 : Sst p d.vb d.vt (.slice (some ⟨gu, 0, none⟩) d2.qs.length cu2) d2.qs b (off + L.length * 13) (cx L.length) (w5.setRow gi (splice cur5.toList (L.length * 13) cc.toList).toArray) := hS.kp (row_kp w5 gi _) (fun e => HGP.out e.symm) HGU.out (fun e => HGB.out e.symm)
            obtain ⟨v4a, hv4a⟩ := HP5.out
            obtain ⟨v4b, hv4b⟩ := hS4.1
            have c4a : w5.cell? ⟨p, 4, none⟩ = some v4a := blk_cell (j := 4) hv4a rfl
            have f4a : w5.frozen? ⟨p, 4, none⟩ = false := blk_frozen 4 hv4a
            have c4b : (w5.setRow gi (splice cur5.toList (L.length * 13) cc.toList).toArray).cell? ⟨p, 4, none⟩ = some v4b := blk_cell (j := 4) hv4b rfl
            have f4b : (w5.setRow gi (splice cur5.toList (L.length * 13) cc.toList).toArray).frozen? ⟨p, 4, none⟩ = false := blk_frozen 4 hv4b
            have HS4s : Hid (Sst p d.vb d.vt (.slice (some ⟨gu, 0, none⟩) d2.qs.length cu2) d2.qs b (off + L.length * 13) (cx L.length) ((w5.setRow gi (splice cur5.toList (L.length * 13) cc.toList).toArray).setCell ⟨p, 4, none⟩ (.slice (some ⟨gi, 0, none⟩) (L.length + 1) c5))) := hS4.set _ HBP.out HUP.out
            have HS5s : Hid (Sst p d.vb d.vt (.slice (some ⟨gu, 0, none⟩) d2.qs.length cu2) d2.qs b (off + L.length * 13) (cx L.length) (w5.setCell ⟨p, 4, none⟩ (.slice (some ⟨gi, 0, none⟩) (L.length + 1) c5))) := hS.set _ HBP.out HUP.out
            have HEQ := hide (row_cell_comm w5 p gi 4 (.slice (some ⟨gi, 0, none⟩) (L.length + 1) c5) (splice cur5.toList (L.length * 13) cc.toList).toArray HGP.out)
            have HCR7 : Hid ((w5.setCell ⟨p, 4, none⟩ (.slice (some ⟨gi, 0, none⟩) (L.length + 1) c5)).heap[gi]? = some (.cells cur5 38 (0, 0))) := blk_other _ _ HCR.out HGP.out
            clear hv4a hv4b
            refine wpAnyH_ready (rs := [20, 23]) (by kernel_rfl) (by simp) ?_
            refine AllReadyH.cons rfl (fun K hK => ?_) (AllReadyH.cons rfl (fun K hK => ?_) AllReadyH.nil)
            · as_aux_lemma =>
              refine step_storePart8 rfl rfl gi (L.length * 13) cur5 cc 38 rfl rfl HCR.out HI5.out HX5.out HCO.out ?_
              refine (Shut.out hK) _ _ hS4 (fun hS6 => ?_)
              clear hK K hS hS4 c4a f4a
              (try simp only [Act.put])
              generalize w5.setRow gi (splice cur5.toList (L.length * 13) cc.toList).toArray = w6 at *
              refine heldStep 23 rfl (by kernel_rfl) (fun K hK => ?_)
              go_simp
              refine (Hid.out hK) _ _ HS4s.out (fun hS7 => ?_)
              clear hK K hS6 c4b f4b
              (try simp only [Act.put])
              refine heldDone (by kernel_rfl) ?_
              clear hS7
              have HFIN : Hid (∃ d' L', L'.length = L.length + 1 ∧ Svs w (w6.setCell ⟨p, 4, none⟩ (.slice (some ⟨gi, 0, none⟩) (L.length + 1) c5)) p d d' ts L') := ⟨_, L ++ [cc], by rw [List.length_append, List.length_singleton], HPUT.out⟩
              clear HPUT
              go_wp2_with fail
              go_roundw
              case rel => exact ⟨L.length + 1, by have := HLT.out; omega, by go_num, HFIN⟩
              case measure => have := HLT.out; simp [intOf]; omega
            · as_aux_lemma =>
              go_simp
              refine (Shut.out hK) _ _ HS5s.out (fun hS6 => ?_)
              clear hK K hS hS4 c4a f4a c4b f4b
              (try simp only [Act.put])
              refine heldStep 20 rfl (by kernel_rfl) (fun K hK => ?_)
              refine step_storePart8 rfl rfl gi (L.length * 13) cur5 cc 38 rfl rfl HCR7.out HI5.out HX5.out HCO.out ?_
              refine (Hid.out hK) _ _ (by rw [HEQ.out]; exact HS4s.out) (fun hS7 => ?_)
              clear hK K hS6
              (try simp only [Act.put])
              refine heldDone (by kernel_rfl) ?_
              clear hS7
              have HFIN : Hid (∃ d' L', L'.length = L.length + 1 ∧ Svs w ((w5.setCell ⟨p, 4, none⟩ (.slice (some ⟨gi, 0, none⟩) (L.length + 1) c5)).setRow gi (splice cur5.toList (L.length * 13) cc.toList).toArray) p d d' ts L') := ⟨_, L ++ [cc], by rw [List.length_append, List.length_singleton], by rw [HEQ.out]; exact HPUT.out⟩
              clear HPUT
              go_wp2_with fail
              go_roundw
              case rel => exact ⟨L.length + 1, by have := HLT.out; omega, by go_num, HFIN⟩
              case measure => have := HLT.out; simp [intOf]; omega
        · as_aux_lemma =>
          have hcl := HIH.out u HUM.out wk g (d2.Ms L.length) (cx L.length) HEc.out (HTI.out wk HKc.out) HMQ.out
          go_simp
          refine hcl.mono ?_
          rintro e wkc ⟨cc, M2, rfl, hse, hsm, hsk, hst⟩
          have HKn := hide (HKc.out.trans hsk (fun _ _ e => e))
          have hSn : Sst p d.vb d.vt (.slice (some ⟨gu, 0, none⟩) d2.qs.length cu2) d2.qs b (off + L.length * 13) (cx L.length) wkc := hS.kp hsk HNP.out HNU.out HNB.out
          have HEn := hide hse
          have HMn : Hid (∀ x, M2 x → d2.Ms L.length x ∨ wd.heap.size ≤ x) := fun x hx => (hsm x hx).imp id (fun e => Nat.le_trans HKc.out.size e)
          have HTn := hide hst
          refine (Shut.out hK) _ _ hSn (fun hS2 => ?_)
          clear hK K hS HKc HEc hcl hse hsm hsk hst 
          have hS := hS2
          clear hS2 hSn
          (try simp only [Act.put]); (try simp only [List.setIfInBounds_toArray, List.set_cons_zero, List.set_cons_succ])
          have HKc := HKn
          have HEc := HEn
          have HMc := HMn
          have HTc := HTn
          clear HKn HEn HMn HTn
          refine wpAnyH_ready (rs := [3, 17]) (by kernel_rfl) (by simp) ?_
          refine AllReadyH.cons rfl (fun K hK => ?_) (AllReadyH.cons rfl (fun K hK => ?_) AllReadyH.nil)
          · as_aux_lemma =>
            have x4 : wkc.cell? ⟨p, 4, none⟩ = some (.slice av2 L.length cv2) := HP4.out wkc HKc.out
            go_simp
            refine (Shut.out hK) _ _ hS (fun hS2 => ?_)
            clear hK K hS2 x4
            (try simp only [Act.put]); (try simp only [List.setIfInBounds_toArray, List.set_cons_zero, List.set_cons_succ])
            refine heldTake 16 _ rfl (by kernel_rfl) (by kernel_rfl) (by kernel_rfl) (fun _ _ _ h => h) rfl hS (fun wy hy => by first | (go_simp; done) | (go_simp; rfl) | rfl) ?_
            (try simp only [Act.put]); (try simp only [List.setIfInBounds_toArray, List.set_cons_zero, List.set_cons_succ])
            refine heldStep 17 rfl (by kernel_rfl) (fun K hK => ?_)
            have HZn : Hid ((wkc.alloc (.cells zv 38)).heap[wkc.heap.size]? = some (.cells zv 38 (0, 0)) ∧ wd.heap.size ≤ wkc.heap.size) := ⟨heap_alloc_new wkc _, HKc.out.size⟩
            have HBA := hide (below_alloc4 wkc (.cells zv 38))
            have hSn : Sst p d.vb d.vt (.slice (some ⟨gu, 0, none⟩) d2.qs.length cu2) d2.qs b (off + L.length * 13) (cx L.length) (wkc.alloc (.cells zv 38)) := hS.kp (Kp.of_below (S := fun _ => False) HBA.out) (fun e => e) (fun _ _ e => e) (fun e => e)
            have HKn := hide (HKc.out.trans (Kp.of_below (S := d2.Ms L.length) HBA.out) (fun _ _ e => e))
            have HEn := hide (HEc.out.next HBA.out)
            have HTn := hide (HTc.out.kp (Kp.of_below (S := fun _ => False) HBA.out) (fun _ _ e => e))
            refine step_val18 rfl rfl zv rfl rfl ?_
            refine (Hid.out hK) _ (wkc.alloc (.cells zv 38)) hSn (fun hS2 => ?_)
            clear hK K hS HKc HEc HTc
            have hS := hS2
            clear hS2 hSn
            (try simp only [Act.put]); (try simp only [List.setIfInBounds_toArray, List.set_cons_zero, List.set_cons_succ])
            generalize hza : wkc.heap.size = za at *
            clear hza
            generalize wkc.alloc (.cells zv 38) = wkca at *
            have HKc := HKn
            have HEc := HEn
            have HZc := HZn
            have HTc := HTn
            clear HTn
            clear HKn HEn HZn HBA
            have HC13 := hide HTc.out.tin.size13
            have HCO : Hid (∀ v ∈ cc.toList, v.oneCell' = true) := fun v hv => by
              have h1 := HTc.out.tin.all1
              rw [Array.all_eq_true'] at h1
              exact h1 v (by simpa using hv)
            have HFV : Hid (wkca.ownsRow 0 38 13 (.slice av2 L.length cv2) L.length (vfl L)) := by
              have h := HKc.out.owns HS2.out.fv HNV.out
              rw [HVV.out] at h
              exact h
            refine heldStep 18 rfl (by kernel_rfl) (fun K hK => ?_)
            refine step_append_val8 rfl _ _ rfl 0 (.slice av2 L.length cv2) L.length (vfl L) rfl HFV.out za zv zv_one8 rfl HZc.out.1 (by have := HLN.out; omega) (Nat.zero_le _) (fun v5 w5 ho5 hg5 hq5 => ?_)
            obtain ⟨gi, c5, hv5, cur5, hcur5, hcs5⟩ : ∃ gi c5, v5 = .slice (some ⟨gi, 0, none⟩) (L.length + 1) c5 ∧ ∃ cur5, w5.heap[gi]? = some (.cells cur5 38 (0, 0)) ∧ (L.length + 1) * 13 ≤ cur5.size := by
              rcases ho5.2 with ⟨_, h0⟩ | ⟨gi, c5, cur5, e, _, h1, h2, _, h3, _⟩
              · omega
              · exact ⟨gi, c5, e, cur5, h1, by rw [h3]; exact Nat.mul_le_mul_right 13 h2⟩
            subst hv5
            have hk5 : Kp (fun r => d2.vv.ownBlock = some r) wkca w5 := (Kp.refl _ _).grown hg5 (fun _ _ h => by rw [HVV.out]; exact h)
            have hgi5 : d2.vv.ownBlock = some gi ∨ gi = wkca.heap.size := by
              rcases hq5 with e | e
              · exact .inl (by rw [HVV.out, ← e]; rfl)
              · injection e with e
                exact .inr e
            have HPUT := hide (HS2.out.put HQ2.out HG2.out HU2.out HKc.out HEc.out HMc.out HTc.out HC13.out hk5 ho5 hgi5 hcur5)
            have hS5 : Sst p d.vb d.vt (.slice (some ⟨gu, 0, none⟩) d2.qs.length cu2) d2.qs b (off + L.length * 13) (cx L.length) w5 := hS.kp hk5 HWP.out HWU.out HWB.out
            have HGP : Hid (gi ≠ p) := fun e => by
              rcases hgi5 with h | h
              · exact HWP.out (by rw [← e]; exact h)
              · have h1 := HKc.out.size
                have h2 := blk_lt HS2.out.fp
                omega
            have HGB : Hid (gi ≠ b) := fun e => by
              rcases hgi5 with h | h
              · exact HWB.out (by rw [← e]; exact h)
              · have h1 := HKc.out.size
                have h2 := HBL.out
                omega
            have HGU : Hid (∀ q, (Value.slice (some ⟨gu, 0, none⟩) d2.qs.length cu2).ownBlock = some q → ¬ q = gi) := fun q hq e => by
              rcases hgi5 with h | h
              · exact HWU.out q hq (by rw [e]; exact h)
              · have h1 := HKc.out.size
                have h2 := HUL.out q hq
                omega
            have HI5 : Hid ((Tryd.prog.info? 38).map (·.size) = some cc.size) := by show _ = _; rw [HC13.out]; exact infoV
            have HX5 : Hid (L.length * 13 + cc.size ≤ cur5.size) := by have := HC13.out; show _ ≤ _; omega
            have HCR := hide hcur5
            have HP5 := hide hS5.1
            have HIX : Hid ((((L.length : Nat) : Int) < ((L.length + 1 : Nat) : Int)) ∧ (L.length : Int) < (L.length : Int) + 1) := ⟨by omega, by omega⟩
            refine (Hid.out hK) _ _ hS5 (fun hS6 => ?_)
            clear hK K ho5 hg5 hq5 hk5 hgi5 hcs5 hcur5 hS hS5 HFV HKc HEc HMc HTc HZc
            have hS := hS6
            clear hS6
            (try simp only [Act.put]); (try simp only [List.setIfInBounds_toArray, List.set_cons_zero, List.set_cons_succ])
            refine heldTake 19 (.pointer (some ⟨gi, L.length * 13, none⟩)) rfl (by kernel_rfl) (by kernel_rfl) (by kernel_rfl) (fun _ _ _ h => h) rfl hS (fun wy hy => by have h0 := HIX.out.1; have h1 := HIX.out.2; first | (go_simp; done) | (go_simp; omega) | (go_simp; rfl)) ?_
            (try simp only [Act.put]); (try simp only [List.setIfInBounds_toArray, List.set_cons_zero, List.set_cons_succ])
            refine heldTake 21 _ rfl (by kernel_rfl) (by kernel_rfl) (by kernel_rfl) (fun _ _ _ h => h) rfl hS (fun wy hy => by first | (go_simp; done) | (go_simp; rfl) | rfl) ?_
            (try simp only [Act.put]); (try simp only [List.setIfInBounds_toArray, List.set_cons_zero, List.set_cons_succ])
            refine heldTake 22 _ rfl (by kernel_rfl) (by kernel_rfl) (by kernel_rfl) (fun _ _ _ h => h) rfl hS (fun wy hy => by first | (go_simp; done) | (go_simp; rfl) | rfl) ?_
            (try simp only [Act.put]); (try simp only [List.setIfInBounds_toArray, List.set_cons_zero, List.set_cons_succ])
            have hS4 : Sst p d.vb d.vt (.slice (some ⟨gu, 0, none⟩) d2.qs.length cu2) d2.qs b (off + L.length * 13) (cx L.length) (w5.setRow gi (splice cur5.toList (L.length * 13) cc.toList).toArray) := hS.kp (row_kp w5 gi _) (fun e => HGP.out e.symm) HGU.out (fun e => HGB.out e.symm)
            obtain ⟨v4a, hv4a⟩ := HP5.out
            obtain ⟨v4b, hv4b⟩ := hS4.1
            have c4a : w5.cell? ⟨p, 4, none⟩ = some v4a := blk_cell (j := 4) hv4a rfl
            have f4a : w5.frozen? ⟨p, 4, none⟩ = false := blk_frozen 4 hv4a
            have c4b : (w5.setRow gi (splice cur5.toList (L.length * 13) cc.toList).toArray).cell? ⟨p, 4, none⟩ = some v4b := blk_cell (j := 4) hv4b rfl
            have f4b : (w5.setRow gi (splice cur5.toList (L.length * 13) cc.toList).toArray).frozen? ⟨p, 4, none⟩ = false := blk_frozen 4 hv4b
            have HS4s : Hid (Sst p d.vb d.vt (.slice (some ⟨gu, 0, none⟩) d2.qs.length cu2) d2.qs b (off + L.length * 13) (cx L.length) ((w5.setRow gi (splice cur5.toList (L.length * 13) cc.toList).toArray).setCell ⟨p, 4, none⟩ (.slice (some ⟨gi, 0, none⟩) (L.length + 1) c5))) := hS4.set _ HBP.out HUP.out
            have HS5s : Hid (Sst p d.vb d.vt (.slice (some ⟨gu, 0, none⟩) d2.qs.length cu2) d2.qs b (off + L.length * 13) (cx L.length) (w5.setCell ⟨p, 4, none⟩ (.slice (some ⟨gi, 0, none⟩) (L.length + 1) c5))) := hS.set _ HBP.out HUP.out
            have HEQ := hide (row_cell_comm w5 p gi 4 (.slice (some ⟨gi, 0, none⟩) (L.length + 1) c5) (splice cur5.toList (L.length * 13) cc.toList).toArray HGP.out)
            have HCR7 : Hid ((w5.setCell ⟨p, 4, none⟩ (.slice (some ⟨gi, 0, none⟩) (L.length + 1) c5)).heap[gi]? = some (.cells cur5 38 (0, 0))) := blk_other _ _ HCR.out HGP.out
            clear hv4a hv4b
            refine wpAnyH_ready (rs := [20, 23]) (by kernel_rfl) (by simp) ?_
            refine AllReadyH.cons rfl (fun K hK => ?_) (AllReadyH.cons rfl (fun K hK => ?_) AllReadyH.nil)
            · as_aux_lemma =>
              refine step_storePart8 rfl rfl gi (L.length * 13) cur5 cc 38 rfl rfl HCR.out HI5.out HX5.out HCO.out ?_
              refine (Shut.out hK) _ _ hS4 (fun hS6 => ?_)
              clear hK K hS hS4 c4a f4a
              (try simp only [Act.put])
              generalize w5.setRow gi (splice cur5.toList (L.length * 13) cc.toList).toArray = w6 at *
              refine heldStep 23 rfl (by kernel_rfl) (fun K hK => ?_)
              go_simp
              refine (Hid.out hK) _ _ HS4s.out (fun hS7 => ?_)
              clear hK K hS6 c4b f4b
              (try simp only [Act.put])
              refine heldDone (by kernel_rfl) ?_
              clear hS7
              have HFIN : Hid (∃ d' L', L'.length = L.length + 1 ∧ Svs w (w6.setCell ⟨p, 4, none⟩ (.slice (some ⟨gi, 0, none⟩) (L.length + 1) c5)) p d d' ts L') := ⟨_, L ++ [cc], by rw [List.length_append, List.length_singleton], HPUT.out⟩
              clear HPUT
              go_wp2_with fail
              go_roundw
              case rel => exact ⟨L.length + 1, by have := HLT.out; omega, by go_num, HFIN⟩
              case measure => have := HLT.out; simp [intOf]; omega
            · as_aux_lemma =>
              go_simp
              refine (Shut.out hK) _ _ HS5s.out (fun hS6 => ?_)
              clear hK K hS hS4 c4a f4a c4b f4b
              (try simp only [Act.put])
              refine heldStep 20 rfl (by kernel_rfl) (fun K hK => ?_)
              refine step_storePart8 rfl rfl gi (L.length * 13) cur5 cc 38 rfl rfl HCR7.out HI5.out HX5.out HCO.out ?_
              refine (Hid.out hK) _ _ (by rw [HEQ.out]; exact HS4s.out) (fun hS7 => ?_)
              clear hK K hS6
              (try simp only [Act.put])
              refine heldDone (by kernel_rfl) ?_
              clear hS7
              have HFIN : Hid (∃ d' L', L'.length = L.length + 1 ∧ Svs w ((w5.setCell ⟨p, 4, none⟩ (.slice (some ⟨gi, 0, none⟩) (L.length + 1) c5)).setRow gi (splice cur5.toList (L.length * 13) cc.toList).toArray) p d d' ts L') := ⟨_, L ++ [cc], by rw [List.length_append, List.length_singleton], by rw [HEQ.out]; exact HPUT.out⟩
              clear HPUT
              go_wp2_with fail
              go_roundw
              case rel => exact ⟨L.length + 1, by have := HLT.out; omega, by go_num, HFIN⟩
              case measure => have := HLT.out; simp [intOf]; omega
          · as_aux_lemma =>
            have HZn : Hid ((wkc.alloc (.cells zv 38)).heap[wkc.heap.size]? = some (.cells zv 38 (0, 0)) ∧ wd.heap.size ≤ wkc.heap.size) := ⟨heap_alloc_new wkc _, HKc.out.size⟩
            have HBA := hide (below_alloc4 wkc (.cells zv 38))
            have hSn : Sst p d.vb d.vt (.slice (some ⟨gu, 0, none⟩) d2.qs.length cu2) d2.qs b (off + L.length * 13) (cx L.length) (wkc.alloc (.cells zv 38)) := hS.kp (Kp.of_below (S := fun _ => False) HBA.out) (fun e => e) (fun _ _ e => e) (fun e => e)
            have HKn := hide (HKc.out.trans (Kp.of_below (S := d2.Ms L.length) HBA.out) (fun _ _ e => e))
            have HEn := hide (HEc.out.next HBA.out)
            have HTn := hide (HTc.out.kp (Kp.of_below (S := fun _ => False) HBA.out) (fun _ _ e => e))
            refine step_val18 rfl rfl zv rfl rfl ?_
            refine (Shut.out hK) _ (wkc.alloc (.cells zv 38)) hSn (fun hS2 => ?_)
            clear hK K hS HKc HEc HTc
            have hS := hS2
            clear hS2 hSn
            (try simp only [Act.put]); (try simp only [List.setIfInBounds_toArray])
            generalize hza : wkc.heap.size = za at *
            clear hza
            generalize wkc.alloc (.cells zv 38) = wkca at *
            have HKc := HKn
            have HEc := HEn
            have HZc := HZn
            have HTc := HTn
            clear HTn
            clear HKn HEn HZn HBA
            refine heldStep 3 rfl (by kernel_rfl) (fun K hK => ?_)
            have x4 : wkca.cell? ⟨p, 4, none⟩ = some (.slice av2 L.length cv2) := HP4.out wkca HKc.out
            go_simp
            refine (Hid.out hK) _ _ hS (fun hS2 => ?_)
            clear hK K hS2 x4
            (try simp only [Act.put]); (try simp only [List.setIfInBounds_toArray, List.set_cons_zero, List.set_cons_succ])
            refine heldTake 16 _ rfl (by kernel_rfl) (by kernel_rfl) (by kernel_rfl) (fun _ _ _ h => h) rfl hS (fun wy hy => by first | (go_simp; done) | (go_simp; rfl) | rfl) ?_
            (try simp only [Act.put]); (try simp only [List.setIfInBounds_toArray, List.set_cons_zero, List.set_cons_succ])
            have HC13 := hide HTc.out.tin.size13
            have HCO : Hid (∀ v ∈ cc.toList, v.oneCell' = true) := fun v hv => by
              have h1 := HTc.out.tin.all1
              rw [Array.all_eq_true'] at h1
              exact h1 v (by simpa using hv)
            have HFV : Hid (wkca.ownsRow 0 38 13 (.slice av2 L.length cv2) L.length (vfl L)) := by
              have h := HKc.out.owns HS2.out.fv HNV.out
              rw [HVV.out] at h
              exact h
            refine heldStep 18 rfl (by kernel_rfl) (fun K hK => ?_)
            refine step_append_val8 rfl _ _ rfl 0 (.slice av2 L.length cv2) L.length (vfl L) rfl HFV.out za zv zv_one8 rfl HZc.out.1 (by have := HLN.out; omega) (Nat.zero_le _) (fun v5 w5 ho5 hg5 hq5 => ?_)
            obtain ⟨gi, c5, hv5, cur5, hcur5, hcs5⟩ : ∃ gi c5, v5 = .slice (some ⟨gi, 0, none⟩) (L.length + 1) c5 ∧ ∃ cur5, w5.heap[gi]? = some (.cells cur5 38 (0, 0)) ∧ (L.length + 1) * 13 ≤ cur5.size := by
              rcases ho5.2 with ⟨_, h0⟩ | ⟨gi, c5, cur5, e, _, h1, h2, _, h3, _⟩
              · omega
              · exact ⟨gi, c5, e, cur5, h1, by rw [h3]; exact Nat.mul_le_mul_right 13 h2⟩
            subst hv5
            have hk5 : Kp (fun r => d2.vv.ownBlock = some r) wkca w5 := (Kp.refl _ _).grown hg5 (fun _ _ h => by rw [HVV.out]; exact h)
            have hgi5 : d2.vv.ownBlock = some gi ∨ gi = wkca.heap.size := by
              rcases hq5 with e | e
              · exact .inl (by rw [HVV.out, ← e]; rfl)
              · injection e with e
                exact .inr e
            have HPUT := hide (HS2.out.put HQ2.out HG2.out HU2.out HKc.out HEc.out HMc.out HTc.out HC13.out hk5 ho5 hgi5 hcur5)
            have hS5 : Sst p d.vb d.vt (.slice (some ⟨gu, 0, none⟩) d2.qs.length cu2) d2.qs b (off + L.length * 13) (cx L.length) w5 := hS.kp hk5 HWP.out HWU.out HWB.out
            have HGP : Hid (gi ≠ p) := fun e => by
              rcases hgi5 with h | h
              · exact HWP.out (by rw [← e]; exact h)
              · have h1 := HKc.out.size
                have h2 := blk_lt HS2.out.fp
                omega
            have HGB : Hid (gi ≠ b) := fun e => by
              rcases hgi5 with h | h
              · exact HWB.out (by rw [← e]; exact h)
              · have h1 := HKc.out.size
                have h2 := HBL.out
                omega
            have HGU : Hid (∀ q, (Value.slice (some ⟨gu, 0, none⟩) d2.qs.length cu2).ownBlock = some q → ¬ q = gi) := fun q hq e => by
              rcases hgi5 with h | h
              · exact HWU.out q hq (by rw [e]; exact h)
              · have h1 := HKc.out.size
                have h2 := HUL.out q hq
                omega
            have HI5 : Hid ((Tryd.prog.info? 38).map (·.size) = some cc.size) := by show _ = _; rw [HC13.out]; exact infoV
            have HX5 : Hid (L.length * 13 + cc.size ≤ cur5.size) := by have := HC13.out; show _ ≤ _; omega
            have HCR := hide hcur5
            have HP5 := hide hS5.1
            have HIX : Hid ((((L.length : Nat) : Int) < ((L.length + 1 : Nat) : Int)) ∧ (L.length : Int) < (L.length : Int) + 1) := ⟨by omega, by omega⟩
            refine (Hid.out hK) _ _ hS5 (fun hS6 => ?_)
            clear hK K ho5 hg5 hq5 hk5 hgi5 hcs5 hcur5 hS hS5 HFV HKc HEc HMc HTc HZc
            have hS := hS6
            clear hS6
            (try simp only [Act.put]); (try simp only [List.setIfInBounds_toArray, List.set_cons_zero, List.set_cons_succ])
            refine heldTake 19 (.pointer (some ⟨gi, L.length * 13, none⟩)) rfl (by kernel_rfl) (by kernel_rfl) (by kernel_rfl) (fun _ _ _ h => h) rfl hS (fun wy hy => by have h0 := HIX.out.1; have h1 := HIX.out.2; first | (go_simp; done) | (go_simp; omega) | (go_simp; rfl)) ?_
            (try simp only [Act.put]); (try simp only [List.setIfInBounds_toArray, List.set_cons_zero, List.set_cons_succ])
            refine heldTake 21 _ rfl (by kernel_rfl) (by kernel_rfl) (by kernel_rfl) (fun _ _ _ h => h) rfl hS (fun wy hy => by first | (go_simp; done) | (go_simp; rfl) | rfl) ?_
            (try simp only [Act.put]); (try simp only [List.setIfInBounds_toArray, List.set_cons_zero, List.set_cons_succ])
            refine heldTake 22 _ rfl (by kernel_rfl) (by kernel_rfl) (by kernel_rfl) (fun _ _ _ h => h) rfl hS (fun wy hy => by first | (go_simp; done) | (go_simp; rfl) | rfl) ?_
            (try simp only [Act.put]); (try simp only [List.setIfInBounds_toArray, List.set_cons_zero, List.set_cons_succ])
            have hS4 : Sst p d.vb d.vt (.slice (some ⟨gu, 0, none⟩) d2.qs.length cu2) d2.qs b (off + L.length * 13) (cx L.length) (w5.setRow gi (splice cur5.toList (L.length * 13) cc.toList).toArray) := hS.kp (row_kp w5 gi _) (fun e => HGP.out e.symm) HGU.out (fun e => HGB.out e.symm)
            obtain ⟨v4a, hv4a⟩ := HP5.out
            obtain ⟨v4b, hv4b⟩ := hS4.1
            have c4a : w5.cell? ⟨p, 4, none⟩ = some v4a := blk_cell (j := 4) hv4a rfl
            have f4a : w5.frozen? ⟨p, 4, none⟩ = false := blk_frozen 4 hv4a
            have c4b : (w5.setRow gi (splice cur5.toList (L.length * 13) cc.toList).toArray).cell? ⟨p, 4, none⟩ = some v4b := blk_cell (j := 4) hv4b rfl
            have f4b : (w5.setRow gi (splice cur5.toList (L.length * 13) cc.toList).toArray).frozen? ⟨p, 4, none⟩ = false := blk_frozen 4 hv4b
            have HS4s : Hid (Sst p d.vb d.vt (.slice (some ⟨gu, 0, none⟩) d2.qs.length cu2) d2.qs b (off + L.length * 13) (cx L.length) ((w5.setRow gi (splice cur5.toList (L.length * 13) cc.toList).toArray).setCell ⟨p, 4, none⟩ (.slice (some ⟨gi, 0, none⟩) (L.length + 1) c5))) := hS4.set _ HBP.out HUP.out
            have HS5s : Hid (Sst p d.vb d.vt (.slice (some ⟨gu, 0, none⟩) d2.qs.length cu2) d2.qs b (off + L.length * 13) (cx L.length) (w5.setCell ⟨p, 4, none⟩ (.slice (some ⟨gi, 0, none⟩) (L.length + 1) c5))) := hS.set _ HBP.out HUP.out
            have HEQ := hide (row_cell_comm w5 p gi 4 (.slice (some ⟨gi, 0, none⟩) (L.length + 1) c5) (splice cur5.toList (L.length * 13) cc.toList).toArray HGP.out)
            have HCR7 : Hid ((w5.setCell ⟨p, 4, none⟩ (.slice (some ⟨gi, 0, none⟩) (L.length + 1) c5)).heap[gi]? = some (.cells cur5 38 (0, 0))) := blk_other _ _ HCR.out HGP.out
            clear hv4a hv4b
            refine wpAnyH_ready (rs := [20, 23]) (by kernel_rfl) (by simp) ?_
            refine AllReadyH.cons rfl (fun K hK => ?_) (AllReadyH.cons rfl (fun K hK => ?_) AllReadyH.nil)
            · as_aux_lemma =>
              refine step_storePart8 rfl rfl gi (L.length * 13) cur5 cc 38 rfl rfl HCR.out HI5.out HX5.out HCO.out ?_
              refine (Shut.out hK) _ _ hS4 (fun hS6 => ?_)
              clear hK K hS hS4 c4a f4a
              (try simp only [Act.put])
              generalize w5.setRow gi (splice cur5.toList (L.length * 13) cc.toList).toArray = w6 at *
              refine heldStep 23 rfl (by kernel_rfl) (fun K hK => ?_)
              go_simp
              refine (Hid.out hK) _ _ HS4s.out (fun hS7 => ?_)
              clear hK K hS6 c4b f4b
              (try simp only [Act.put])
              refine heldDone (by kernel_rfl) ?_
              clear hS7
              have HFIN : Hid (∃ d' L', L'.length = L.length + 1 ∧ Svs w (w6.setCell ⟨p, 4, none⟩ (.slice (some ⟨gi, 0, none⟩) (L.length + 1) c5)) p d d' ts L') := ⟨_, L ++ [cc], by rw [List.length_append, List.length_singleton], HPUT.out⟩
              clear HPUT
              go_wp2_with fail
              go_roundw
              case rel => exact ⟨L.length + 1, by have := HLT.out; omega, by go_num, HFIN⟩
              case measure => have := HLT.out; simp [intOf]; omega
            · as_aux_lemma =>
              go_simp
              refine (Shut.out hK) _ _ HS5s.out (fun hS6 => ?_)
              clear hK K hS hS4 c4a f4a c4b f4b
              (try simp only [Act.put])
              refine heldStep 20 rfl (by kernel_rfl) (fun K hK => ?_)
              refine step_storePart8 rfl rfl gi (L.length * 13) cur5 cc 38 rfl rfl HCR7.out HI5.out HX5.out HCO.out ?_
              refine (Hid.out hK) _ _ (by rw [HEQ.out]; exact HS4s.out) (fun hS7 => ?_)
              clear hK K hS6
              (try simp only [Act.put])
              refine heldDone (by kernel_rfl) ?_
              clear hS7
              have HFIN : Hid (∃ d' L', L'.length = L.length + 1 ∧ Svs w ((w5.setCell ⟨p, 4, none⟩ (.slice (some ⟨gi, 0, none⟩) (L.length + 1) c5)).setRow gi (splice cur5.toList (L.length * 13) cc.toList).toArray) p d d' ts L') := ⟨_, L ++ [cc], by rw [List.length_append, List.length_singleton], by rw [HEQ.out]; exact HPUT.out⟩
              clear HPUT
              go_wp2_with fail
              go_roundw
              case rel => exact ⟨L.length + 1, by have := HLT.out; omega, by go_num, HFIN⟩
              case measure => have := HLT.out; simp [intOf]; omega
        · as_aux_lemma =>
          have HZn : Hid ((wk.alloc (.cells zv 38)).heap[wk.heap.size]? = some (.cells zv 38 (0, 0)) ∧ wd.heap.size ≤ wk.heap.size) := ⟨heap_alloc_new wk _, HKc.out.size⟩
          have HBA := hide (below_alloc4 wk (.cells zv 38))
          have hSn : Sst p d.vb d.vt (.slice (some ⟨gu, 0, none⟩) d2.qs.length cu2) d2.qs b (off + L.length * 13) (cx L.length) (wk.alloc (.cells zv 38)) := hS.kp (Kp.of_below (S := fun _ => False) HBA.out) (fun e => e) (fun _ _ e => e) (fun e => e)
          have HKn := hide (HKc.out.trans (Kp.of_below (S := d2.Ms L.length) HBA.out) (fun _ _ e => e))
          have HEn := hide (HEc.out.next HBA.out)
          refine step_val18 rfl rfl zv rfl rfl ?_
          refine (Shut.out hK) _ (wk.alloc (.cells zv 38)) hSn (fun hS2 => ?_)
          clear hK K hS HKc HEc 
          have hS := hS2
          clear hS2 hSn
          (try simp only [Act.put]); (try simp only [List.setIfInBounds_toArray])
          generalize hza : wk.heap.size = za at *
          clear hza
          generalize wk.alloc (.cells zv 38) = wka at *
          have HKc := HKn
          have HEc := HEn
          have HZc := HZn
          clear HKn HEn HZn HBA
          refine wpAnyH_ready (rs := [3, 15]) (by kernel_rfl) (by simp) ?_
          refine AllReadyH.cons rfl (fun K hK => ?_) (AllReadyH.cons rfl (fun K hK => ?_) AllReadyH.nil)
          · as_aux_lemma =>
            have x4 : wka.cell? ⟨p, 4, none⟩ = some (.slice av2 L.length cv2) := HP4.out wka HKc.out
            go_simp
            refine (Shut.out hK) _ _ hS (fun hS2 => ?_)
            clear hK K hS2 x4
            (try simp only [Act.put]); (try simp only [List.setIfInBounds_toArray, List.set_cons_zero, List.set_cons_succ])
            refine heldTake 16 _ rfl (by kernel_rfl) (by kernel_rfl) (by kernel_rfl) (fun _ _ _ h => h) rfl hS (fun wy hy => by first | (go_simp; done) | (go_simp; rfl) | rfl) ?_
            (try simp only [Act.put]); (try simp only [List.setIfInBounds_toArray, List.set_cons_zero, List.set_cons_succ])
            refine heldStep 15 rfl (by kernel_rfl) (fun K hK => ?_)
            have hcl := HIH.out u HUM.out wka g (d2.Ms L.length) (cx L.length) HEc.out (HTI.out wka HKc.out) HMQ.out
            go_simp
            refine hcl.mono ?_
            rintro e wkac ⟨cc, M2, rfl, hse, hsm, hsk, hst⟩
            have HKn := hide (HKc.out.trans hsk (fun _ _ e => e))
            have hSn : Sst p d.vb d.vt (.slice (some ⟨gu, 0, none⟩) d2.qs.length cu2) d2.qs b (off + L.length * 13) (cx L.length) wkac := hS.kp hsk HNP.out HNU.out HNB.out
            have HEn := hide hse
            have HMn : Hid (∀ x, M2 x → d2.Ms L.length x ∨ wd.heap.size ≤ x) := fun x hx => (hsm x hx).imp id (fun e => Nat.le_trans HKc.out.size e)
            have HTn := hide hst
            have HZn : Hid (wkac.heap[za]? = some (.cells zv 38 (0, 0)) ∧ wd.heap.size ≤ za) := ⟨(hsk.block _ (blk_lt HZc.out.1) (fun e => by have h1 := HS2.out.lt HQ2.out e; have h2 := HZc.out.2; omega)).trans HZc.out.1, HZc.out.2⟩
            refine (Hid.out hK) _ _ hSn (fun hS2 => ?_)
            clear hK K hS HKc HEc hcl hse hsm hsk hst HZc
            have hS := hS2
            clear hS2 hSn
            (try simp only [Act.put]); (try simp only [List.setIfInBounds_toArray, List.set_cons_zero, List.set_cons_succ])
            have HKc := HKn
            have HEc := HEn
            have HMc := HMn
            have HTc := HTn
            have HZc := HZn
            clear HZn
            clear HKn HEn HMn HTn
            have HC13 := hide HTc.out.tin.size13
            have HCO : Hid (∀ v ∈ cc.toList, v.oneCell' = true) := fun v hv => by
              have h1 := HTc.out.tin.all1
              rw [Array.all_eq_true'] at h1
              exact h1 v (by simpa using hv)
            have HFV : Hid (wkac.ownsRow 0 38 13 (.slice av2 L.length cv2) L.length (vfl L)) := by
              have h := HKc.out.owns HS2.out.fv HNV.out
              rw [HVV.out] at h
              exact h
            refine heldStep 18 rfl (by kernel_rfl) (fun K hK => ?_)
            refine step_append_val8 rfl _ _ rfl 0 (.slice av2 L.length cv2) L.length (vfl L) rfl HFV.out za zv zv_one8 rfl HZc.out.1 (by have := HLN.out; omega) (Nat.zero_le _) (fun v5 w5 ho5 hg5 hq5 => ?_)
            obtain ⟨gi, c5, hv5, cur5, hcur5, hcs5⟩ : ∃ gi c5, v5 = .slice (some ⟨gi, 0, none⟩) (L.length + 1) c5 ∧ ∃ cur5, w5.heap[gi]? = some (.cells cur5 38 (0, 0)) ∧ (L.length + 1) * 13 ≤ cur5.size := by
              rcases ho5.2 with ⟨_, h0⟩ | ⟨gi, c5, cur5, e, _, h1, h2, _, h3, _⟩
              · omega
              · exact ⟨gi, c5, e, cur5, h1, by rw [h3]; exact Nat.mul_le_mul_right 13 h2⟩
            subst hv5
            have hk5 : Kp (fun r => d2.vv.ownBlock = some r) wkac w5 := (Kp.refl _ _).grown hg5 (fun _ _ h => by rw [HVV.out]; exact h)
            have hgi5 : d2.vv.ownBlock = some gi ∨ gi = wkac.heap.size := by
              rcases hq5 with e | e
              · exact .inl (by rw [HVV.out, ← e]; rfl)
              · injection e with e
                exact .inr e
            have HPUT := hide (HS2.out.put HQ2.out HG2.out HU2.out HKc.out HEc.out HMc.out HTc.out HC13.out hk5 ho5 hgi5 hcur5)
            have hS5 : Sst p d.vb d.vt (.slice (some ⟨gu, 0, none⟩) d2.qs.length cu2) d2.qs b (off + L.length * 13) (cx L.length) w5 := hS.kp hk5 HWP.out HWU.out HWB.out
            have HGP : Hid (gi ≠ p) := fun e => by
              rcases hgi5 with h | h
              · exact HWP.out (by rw [← e]; exact h)
              · have h1 := HKc.out.size
                have h2 := blk_lt HS2.out.fp
                omega
            have HGB : Hid (gi ≠ b) := fun e => by
              rcases hgi5 with h | h
              · exact HWB.out (by rw [← e]; exact h)
              · have h1 := HKc.out.size
                have h2 := HBL.out
                omega
            have HGU : Hid (∀ q, (Value.slice (some ⟨gu, 0, none⟩) d2.qs.length cu2).ownBlock = some q → ¬ q = gi) := fun q hq e => by
              rcases hgi5 with h | h
              · exact HWU.out q hq (by rw [e]; exact h)
              · have h1 := HKc.out.size
                have h2 := HUL.out q hq
                omega
            have HI5 : Hid ((Tryd.prog.info? 38).map (·.size) = some cc.size) := by show _ = _; rw [HC13.out]; exact infoV
            have HX5 : Hid (L.length * 13 + cc.size ≤ cur5.size) := by have := HC13.out; show _ ≤ _; omega
            have HCR := hide hcur5
            have HP5 := hide hS5.1
            have HIX : Hid ((((L.length : Nat) : Int) < ((L.length + 1 : Nat) : Int)) ∧ (L.length : Int) < (L.length : Int) + 1) := ⟨by omega, by omega⟩
            refine (Hid.out hK) _ _ hS5 (fun hS6 => ?_)
            clear hK K ho5 hg5 hq5 hk5 hgi5 hcs5 hcur5 hS hS5 HFV HKc HEc HMc HTc HZc
            have hS := hS6
            clear hS6
            (try simp only [Act.put]); (try simp only [List.setIfInBounds_toArray, List.set_cons_zero, List.set_cons_succ])
            refine heldTake 19 (.pointer (some ⟨gi, L.length * 13, none⟩)) rfl (by kernel_rfl) (by kernel_rfl) (by kernel_rfl) (fun _ _ _ h => h) rfl hS (fun wy hy => by have h0 := HIX.out.1; have h1 := HIX.out.2; first | (go_simp; done) | (go_simp; omega) | (go_simp; rfl)) ?_
            (try simp only [Act.put]); (try simp only [List.setIfInBounds_toArray, List.set_cons_zero, List.set_cons_succ])
            refine heldTake 21 _ rfl (by kernel_rfl) (by kernel_rfl) (by kernel_rfl) (fun _ _ _ h => h) rfl hS (fun wy hy => by first | (go_simp; done) | (go_simp; rfl) | rfl) ?_
            (try simp only [Act.put]); (try simp only [List.setIfInBounds_toArray, List.set_cons_zero, List.set_cons_succ])
            refine heldTake 22 _ rfl (by kernel_rfl) (by kernel_rfl) (by kernel_rfl) (fun _ _ _ h => h) rfl hS (fun wy hy => by first | (go_simp; done) | (go_simp; rfl) | rfl) ?_
            (try simp only [Act.put]); (try simp only [List.setIfInBounds_toArray, List.set_cons_zero, List.set_cons_succ])
            have hS4 : Sst p d.vb d.vt (.slice (some ⟨gu, 0, none⟩) d2.qs.length cu2) d2.qs b (off + L.length * 13) (cx L.length) (w5.setRow gi (splice cur5.toList (L.length * 13) cc.toList).toArray) := hS.kp (row_kp w5 gi _) (fun e => HGP.out e.symm) HGU.out (fun e => HGB.out e.symm)
            obtain ⟨v4a, hv4a⟩ := HP5.out
            obtain ⟨v4b, hv4b⟩ := hS4.1
            have c4a : w5.cell? ⟨p, 4, none⟩ = some v4a := blk_cell (j := 4) hv4a rfl
            have f4a : w5.frozen? ⟨p, 4, none⟩ = false := blk_frozen 4 hv4a
            have c4b : (w5.setRow gi (splice cur5.toList (L.length * 13) cc.toList).toArray).cell? ⟨p, 4, none⟩ = some v4b := blk_cell (j := 4) hv4b rfl
            have f4b : (w5.setRow gi (splice cur5.toList (L.length * 13) cc.toList).toArray).frozen? ⟨p, 4, none⟩ = false := blk_frozen 4 hv4b
            have HS4s : Hid (Sst p d.vb d.vt (.slice (some ⟨gu, 0, none⟩) d2.qs.length cu2) d2.qs b (off + L.length * 13) (cx L.length) ((w5.setRow gi (splice cur5.toList (L.length * 13) cc.toList).toArray).setCell ⟨p, 4, none⟩ (.slice (some ⟨gi, 0, none⟩) (L.length + 1) c5))) := hS4.set _ HBP.out HUP.out
            have HS5s : Hid (Sst p d.vb d.vt (.slice (some ⟨gu, 0, none⟩) d2.qs.length cu2) d2.qs b (off + L.length * 13) (cx L.length) (w5.setCell ⟨p, 4, none⟩ (.slice (some ⟨gi, 0, none⟩) (L.length + 1) c5))) := hS.set _ HBP.out HUP.out
            have HEQ := hide (row_cell_comm w5 p gi 4 (.slice (some ⟨gi, 0, none⟩) (L.length + 1) c5) (splice cur5.toList (L.length * 13) cc.toList).toArray HGP.out)
            have HCR7 : Hid ((w5.setCell ⟨p, 4, none⟩ (.slice (some ⟨gi, 0, none⟩) (L.length + 1) c5)).heap[gi]? = some (.cells cur5 38 (0, 0))) := blk_other _ _ HCR.out HGP.out
            clear hv4a hv4b
            refine wpAnyH_ready (rs := [20, 23]) (by kernel_rfl) (by simp) ?_
            refine AllReadyH.cons rfl (fun K hK => ?_) (AllReadyH.cons rfl (fun K hK => ?_) AllReadyH.nil)
            · as_aux_lemma =>
              refine step_storePart8 rfl rfl gi (L.length * 13) cur5 cc 38 rfl rfl HCR.out HI5.out HX5.out HCO.out ?_
              refine (Shut.out hK) _ _ hS4 (fun hS6 => ?_)
              clear hK K hS hS4 c4a f4a
              (try simp only [Act.put])
              generalize w5.setRow gi (splice cur5.toList (L.length * 13) cc.toList).toArray = w6 at *
              refine heldStep 23 rfl (by kernel_rfl) (fun K hK => ?_)
              go_simp
              refine (Hid.out hK) _ _ HS4s.out (fun hS7 => ?_)
              clear hK K hS6 c4b f4b
              (try simp only [Act.put])
              refine heldDone (by kernel_rfl) ?_
              clear hS7
              have HFIN : Hid (∃ d' L', L'.length = L.length + 1 ∧ Svs w (w6.setCell ⟨p, 4, none⟩ (.slice (some ⟨gi, 0, none⟩) (L.length + 1) c5)) p d d' ts L') := ⟨_, L ++ [cc], by rw [List.length_append, List.length_singleton], HPUT.out⟩
              clear HPUT
              go_wp2_with fail
              go_roundw
              case rel => exact ⟨L.length + 1, by have := HLT.out; omega, by go_num, HFIN⟩
              case measure => have := HLT.out; simp [intOf]; omega
            · as_aux_lemma =>
              go_simp
              refine (Shut.out hK) _ _ HS5s.out (fun hS6 => ?_)
              clear hK K hS hS4 c4a f4a c4b f4b
              (try simp only [Act.put])
              refine heldStep 20 rfl (by kernel_rfl) (fun K hK => ?_)
              refine step_storePart8 rfl rfl gi (L.length * 13) cur5 cc 38 rfl rfl HCR7.out HI5.out HX5.out HCO.out ?_
              refine (Hid.out hK) _ _ (by rw [HEQ.out]; exact HS4s.out) (fun hS7 => ?_)
              clear hK K hS6
              (try simp only [Act.put])
              refine heldDone (by kernel_rfl) ?_
              clear hS7
              have HFIN : Hid (∃ d' L', L'.length = L.length + 1 ∧ Svs w ((w5.setCell ⟨p, 4, none⟩ (.slice (some ⟨gi, 0, none⟩) (L.length + 1) c5)).setRow gi (splice cur5.toList (L.length * 13) cc.toList).toArray) p d d' ts L') := ⟨_, L ++ [cc], by rw [List.length_append, List.length_singleton], by rw [HEQ.out]; exact HPUT.out⟩
              clear HPUT
              go_wp2_with fail
              go_roundw
              case rel => exact ⟨L.length + 1, by have := HLT.out; omega, by go_num, HFIN⟩
              case measure => have := HLT.out; simp [intOf]; omega
          · as_aux_lemma =>
            have hcl := HIH.out u HUM.out wka g (d2.Ms L.length) (cx L.length) HEc.out (HTI.out wka HKc.out) HMQ.out
            go_simp
            refine hcl.mono ?_
            rintro e wkac ⟨cc, M2, rfl, hse, hsm, hsk, hst⟩
            have HKn := hide (HKc.out.trans hsk (fun _ _ e => e))
            have hSn : Sst p d.vb d.vt (.slice (some ⟨gu, 0, none⟩) d2.qs.length cu2) d2.qs b (off + L.length * 13) (cx L.length) wkac := hS.kp hsk HNP.out HNU.out HNB.out
            have HEn := hide hse
            have HMn : Hid (∀ x, M2 x → d2.Ms L.length x ∨ wd.heap.size ≤ x) := fun x hx => (hsm x hx).imp id (fun e => Nat.le_trans HKc.out.size e)
            have HTn := hide hst
            have HZn : Hid (wkac.heap[za]? = some (.cells zv 38 (0, 0)) ∧ wd.heap.size ≤ za) := ⟨(hsk.block _ (blk_lt HZc.out.1) (fun e => by have h1 := HS2.out.lt HQ2.out e; have h2 := HZc.out.2; omega)).trans HZc.out.1, HZc.out.2⟩
            refine (Shut.out hK) _ _ hSn (fun hS2 => ?_)
            clear hK K hS HKc HEc hcl hse hsm hsk hst HZc
            have hS := hS2
            clear hS2 hSn
            (try simp only [Act.put]); (try simp only [List.setIfInBounds_toArray, List.set_cons_zero, List.set_cons_succ])
            have HKc := HKn
            have HEc := HEn
            have HMc := HMn
            have HTc := HTn
            have HZc := HZn
            clear HZn
            clear HKn HEn HMn HTn
            refine heldStep 3 rfl (by kernel_rfl) (fun K hK => ?_)
            have x4 : wkac.cell? ⟨p, 4, none⟩ = some (.slice av2 L.length cv2) := HP4.out wkac HKc.out
            go_simp
            refine (Hid.out hK) _ _ hS (fun hS2 => ?_)
            clear hK K hS2 x4
            (try simp only [Act.put]); (try simp only [List.setIfInBounds_toArray, List.set_cons_zero, List.set_cons_succ])
            refine heldTake 16 _ rfl (by kernel_rfl) (by kernel_rfl) (by kernel_rfl) (fun _ _ _ h => h) rfl hS (fun wy hy => by first | (go_simp; done) | (go_simp; rfl) | rfl) ?_
            (try simp only [Act.put]); (try simp only [List.setIfInBounds_toArray, List.set_cons_zero, List.set_cons_succ])
            have HC13 := hide HTc.out.tin.size13
            have HCO : Hid (∀ v ∈ cc.toList, v.oneCell' = true) := fun v hv => by
              have h1 := HTc.out.tin.all1
              rw [Array.all_eq_true'] at h1
              exact h1 v (by simpa using hv)
            have HFV : Hid (wkac.ownsRow 0 38 13 (.slice av2 L.length cv2) L.length (vfl L)) := by
              have h := HKc.out.owns HS2.out.fv HNV.out
              rw [HVV.out] at h
              exact h
            refine heldStep 18 rfl (by kernel_rfl) (fun K hK => ?_)
            refine step_append_val8 rfl _ _ rfl 0 (.slice av2 L.length cv2) L.length (vfl L) rfl HFV.out za zv zv_one8 rfl HZc.out.1 (by have := HLN.out; omega) (Nat.zero_le _) (fun v5 w5 ho5 hg5 hq5 => ?_)
            obtain ⟨gi, c5, hv5, cur5, hcur5, hcs5⟩ : ∃ gi c5, v5 = .slice (some ⟨gi, 0, none⟩) (L.length + 1) c5 ∧ ∃ cur5, w5.heap[gi]? = some (.cells cur5 38 (0, 0)) ∧ (L.length + 1) * 13 ≤ cur5.size := by
              rcases ho5.2 with ⟨_, h0⟩ | ⟨gi, c5, cur5, e, _, h1, h2, _, h3, _⟩
              · omega
              · exact ⟨gi, c5, e, cur5, h1, by rw [h3]; exact Nat.mul_le_mul_right 13 h2⟩
            subst hv5
            have hk5 : Kp (fun r => d2.vv.ownBlock = some r) wkac w5 := (Kp.refl _ _).grown hg5 (fun _ _ h => by rw [HVV.out]; exact h)
            have hgi5 : d2.vv.ownBlock = some gi ∨ gi = wkac.heap.size := by
              rcases hq5 with e | e
              · exact .inl (by rw [HVV.out, ← e]; rfl)
              · injection e with e
                exact .inr e
            have HPUT := hide (HS2.out.put HQ2.out HG2.out HU2.out HKc.out HEc.out HMc.out HTc.out HC13.out hk5 ho5 hgi5 hcur5)
            have hS5 : Sst p d.vb d.vt (.slice (some ⟨gu, 0, none⟩) d2.qs.length cu2) d2.qs b (off + L.length * 13) (cx L.length) w5 := hS.kp hk5 HWP.out HWU.out HWB.out
            have HGP : Hid (gi ≠ p) := fun e => by
              rcases hgi5 with h | h
              · exact HWP.out (by rw [← e]; exact h)
              · have h1 := HKc.out.size
                have h2 := blk_lt HS2.out.fp
                omega
            have HGB : Hid (gi ≠ b) := fun e => by
              rcases hgi5 with h | h
              · exact HWB.out (by rw [← e]; exact h)
              · have h1 := HKc.out.size
                have h2 := HBL.out
                omega
            have HGU : Hid (∀ q, (Value.slice (some ⟨gu, 0, none⟩) d2.qs.length cu2).ownBlock = some q → ¬ q = gi) := fun q hq e => by
              rcases hgi5 with h | h
              · exact HWU.out q hq (by rw [e]; exact h)
              · have h1 := HKc.out.size
                have h2 := HUL.out q hq
                omega
            have HI5 : Hid ((Tryd.prog.info? 38).map (·.size) = some cc.size) := by show _ = _; rw [HC13.out]; exact infoV
            have HX5 : Hid (L.length * 13 + cc.size ≤ cur5.size) := by have := HC13.out; show _ ≤ _; omega
            have HCR := hide hcur5
            have HP5 := hide hS5.1
            have HIX : Hid ((((L.length : Nat) : Int) < ((L.length + 1 : Nat) : Int)) ∧ (L.length : Int) < (L.length : Int) + 1) := ⟨by omega, by omega⟩
            refine (Hid.out hK) _ _ hS5 (fun hS6 => ?_)
            clear hK K ho5 hg5 hq5 hk5 hgi5 hcs5 hcur5 hS hS5 HFV HKc HEc HMc HTc HZc
            have hS := hS6
            clear hS6
            (try simp only [Act.put]); (try simp only [List.setIfInBounds_toArray, List.set_cons_zero, List.set_cons_succ])
            refine heldTake 19 (.pointer (some ⟨gi, L.length * 13, none⟩)) rfl (by kernel_rfl) (by kernel_rfl) (by kernel_rfl) (fun _ _ _ h => h) rfl hS (fun wy hy => by have h0 := HIX.out.1; have h1 := HIX.out.2; first | (go_simp; done) | (go_simp; omega) | (go_simp; rfl)) ?_
            (try simp only [Act.put]); (try simp only [List.setIfInBounds_toArray, List.set_cons_zero, List.set_cons_succ])
            refine heldTake 21 _ rfl (by kernel_rfl) (by kernel_rfl) (by kernel_rfl) (fun _ _ _ h => h) rfl hS (fun wy hy => by first | (go_simp; done) | (go_simp; rfl) | rfl) ?_
            (try simp only [Act.put]); (try simp only [List.setIfInBounds_toArray, List.set_cons_zero, List.set_cons_succ])
            refine heldTake 22 _ rfl (by kernel_rfl) (by kernel_rfl) (by kernel_rfl) (fun _ _ _ h => h) rfl hS (fun wy hy => by first | (go_simp; done) | (go_simp; rfl) | rfl) ?_
            (try simp only [Act.put]); (try simp only [List.setIfInBounds_toArray, List.set_cons_zero, List.set_cons_succ])
            have hS4 : Sst p d.vb d.vt (.slice (some ⟨gu, 0, none⟩) d2.qs.length cu2) d2.qs b (off + L.length * 13) (cx L.length) (w5.setRow gi (splice cur5.toList (L.length * 13) cc.toList).toArray) := hS.kp (row_kp w5 gi _) (fun e => HGP.out e.symm) HGU.out (fun e => HGB.out e.symm)
            obtain ⟨v4a, hv4a⟩ := HP5.out
            obtain ⟨v4b, hv4b⟩ := hS4.1
            have c4a : w5.cell? ⟨p, 4, none⟩ = some v4a := blk_cell (j := 4) hv4a rfl
            have f4a : w5.frozen? ⟨p, 4, none⟩ = false := blk_frozen 4 hv4a
            have c4b : (w5.setRow gi (splice cur5.toList (L.length * 13) cc.toList).toArray).cell? ⟨p, 4, none⟩ = some v4b := blk_cell (j := 4) hv4b rfl
            have f4b : (w5.setRow gi (splice cur5.toList (L.length * 13) cc.toList).toArray).frozen? ⟨p, 4, none⟩ = false := blk_frozen 4 hv4b
            have HS4s : Hid (Sst p d.vb d.vt (.slice (some ⟨gu, 0, none⟩) d2.qs.length cu2) d2.qs b (off + L.length * 13) (cx L.length) ((w5.setRow gi (splice cur5.toList (L.length * 13) cc.toList).toArray).setCell ⟨p, 4, none⟩ (.slice (some ⟨gi, 0, none⟩) (L.length + 1) c5))) := hS4.set _ HBP.out HUP.out
            have HS5s : Hid (Sst p d.vb d.vt (.slice (some ⟨gu, 0, none⟩) d2.qs.length cu2) d2.qs b (off + L.length * 13) (cx L.length) (w5.setCell ⟨p, 4, none⟩ (.slice (some ⟨gi, 0, none⟩) (L.length + 1) c5))) := hS.set _ HBP.out HUP.out
            have HEQ := hide (row_cell_comm w5 p gi 4 (.slice (some ⟨gi, 0, none⟩) (L.length + 1) c5) (splice cur5.toList (L.length * 13) cc.toList).toArray HGP.out)
            have HCR7 : Hid ((w5.setCell ⟨p, 4, none⟩ (.slice (some ⟨gi, 0, none⟩) (L.length + 1) c5)).heap[gi]? = some (.cells cur5 38 (0, 0))) := blk_other _ _ HCR.out HGP.out
            clear hv4a hv4b
            refine wpAnyH_ready (rs := [20, 23]) (by kernel_rfl) (by simp) ?_
            refine AllReadyH.cons rfl (fun K hK => ?_) (AllReadyH.cons rfl (fun K hK => ?_) AllReadyH.nil)
            · as_aux_lemma =>
              refine step_storePart8 rfl rfl gi (L.length * 13) cur5 cc 38 rfl rfl HCR.out HI5.out HX5.out HCO.out ?_
              refine (Shut.out hK) _ _ hS4 (fun hS6 => ?_)
              clear hK K hS hS4 c4a f4a
              (try simp only [Act.put])
              generalize w5.setRow gi (splice cur5.toList (L.length * 13) cc.toList).toArray = w6 at *
              refine heldStep 23 rfl (by kernel_rfl) (fun K hK => ?_)
              go_simp
              refine (Hid.out hK) _ _ HS4s.out (fun hS7 => ?_)
              clear hK K hS6 c4b f4b
              (try simp only [Act.put])
              refine heldDone (by kernel_rfl) ?_
              clear hS7
              have HFIN : Hid (∃ d' L', L'.length = L.length + 1 ∧ Svs w (w6.setCell ⟨p, 4, none⟩ (.slice (some ⟨gi, 0, none⟩) (L.length + 1) c5)) p d d' ts L') := ⟨_, L ++ [cc], by rw [List.length_append, List.length_singleton], HPUT.out⟩
              clear HPUT
              go_wp2_with fail
              go_roundw
              case rel => exact ⟨L.length + 1, by have := HLT.out; omega, by go_num, HFIN⟩
              case measure => have := HLT.out; simp [intOf]; omega
            · as_aux_lemma =>
              go_simp
              refine (Shut.out hK) _ _ HS5s.out (fun hS6 => ?_)
              clear hK K hS hS4 c4a f4a c4b f4b
              (try simp only [Act.put])
              refine heldStep 20 rfl (by kernel_rfl) (fun K hK => ?_)
              refine step_storePart8 rfl rfl gi (L.length * 13) cur5 cc 38 rfl rfl HCR7.out HI5.out HX5.out HCO.out ?_
              refine (Hid.out hK) _ _ (by rw [HEQ.out]; exact HS4s.out) (fun hS7 => ?_)
              clear hK K hS6
              (try simp only [Act.put])
              refine heldDone (by kernel_rfl) ?_
              clear hS7
              have HFIN : Hid (∃ d' L', L'.length = L.length + 1 ∧ Svs w ((w5.setCell ⟨p, 4, none⟩ (.slice (some ⟨gi, 0, none⟩) (L.length + 1) c5)).setRow gi (splice cur5.toList (L.length * 13) cc.toList).toArray) p d d' ts L') := ⟨_, L ++ [cc], by rw [List.length_append, List.length_singleton], by rw [HEQ.out]; exact HPUT.out⟩
              clear HPUT
              go_wp2_with fail
              go_roundw
              case rel => exact ⟨L.length + 1, by have := HLT.out; omega, by go_num, HFIN⟩
              case measure => have := HLT.out; simp [intOf]; omega

    · have g1 : ¬ (L.length : Int) < (ts.length : Int) := by omega
      have hLe : L.length = ts.length := by omega
      have HLE := hide hLe
      have q4 : wr.cell? ⟨p, 4, none⟩ = some d1.vv := blk_cell (j := 4) HS1.out.fp rfl
      obtain ⟨av2, cv2, hvv2⟩ := row_slice HS1.out.fv
      have HVV := hide hvv2
      rw [hvv2] at q4
      clear hLe hvv2 hlt hi
      go_wp2_with fail
      go_ret
      exact ⟨d1, by rw [HVV.out]; rfl, L, HLE.out, HS1.out⟩
end
section
open Go.RowKit Go
/-- The seat's row of bytes was written anew. -/
theorem Seb.bytes {w w' : World} {p : Nat} {M : Nat → Prop} {d : Sd} {vb' : Value} {n : Nat} {xs : List Value} (h : Seb w p M d) (hp : w'.heap[p]? = some (.cells (scs vb' d.vt d.vv d.vu) 32 (0, 0))) (ho : w'.ownsRow 0 5 1 vb' n xs) (hk : Kp (fun q => q = p ∨ d.vb.ownBlock = some q) w w') (hn : ∀ q, vb'.ownBlock = some q → d.vb.ownBlock = some q ∨ w.heap.size ≤ q) :
    Seb w' p (fun q => M q ∨ (w.heap.size ≤ q ∧ q < w'.heap.size)) { d with vb := vb', nb := n, xb := xs } := by
  have hnb : ∀ q, vb'.ownBlock = some q → M q ∨ (w.heap.size ≤ q ∧ q < w'.heap.size) := fun q hq => (hn q hq).imp (fun e => h.mo q (.inr (.inl e))) (fun e => ⟨e, (ho.lt q hq).2⟩)
  refine ⟨hp, ho, hk.owns h.ft (fun q hq e => ?_), hk.owns h.fv (fun q hq e => ?_), hk.owns h.fu (fun q hq e => ?_), fun q hq => ?_, fun i hi x hx => ⟨.inl (h.ms i hi x hx).1, fun e => ?_⟩, h.md, fun x hx => ?_⟩
  · rcases e with e | e
    · exact own_not h.ft h.fp (by decide) (by rw [hq, e])
    · exact own_apart h.ft h.fb (by decide) hq e
  · rcases e with e | e
    · exact own_not h.fv h.fp (by decide) (by rw [hq, e])
    · exact own_apart h.fv h.fb (by decide) hq e
  · rcases e with e | e
    · exact own_not h.fu h.fp (by decide) (by rw [hq, e])
    · exact own_apart h.fu h.fb (by decide) hq e
  · rcases hq with e | e | e | e | e
    · exact .inl (h.mo q (.inl e))
    · exact hnb q e
    · exact .inl (h.mo q (.inr (.inr (.inl e))))
    · exact .inl (h.mo q (.inr (.inr (.inr (.inl e)))))
    · exact .inl (h.mo q (.inr (.inr (.inr (.inr e)))))
  · have h1 := h.ms i hi x hx
    have h2 := h.lt x h1.1
    rcases e with e | e | e | e | e
    · exact h1.2 (.inl e)
    · rcases hn x e with h3 | h3
      · exact h1.2 (.inr (.inl h3))
      · omega
    · exact h1.2 (.inr (.inr (.inl e)))
    · exact h1.2 (.inr (.inr (.inr (.inl e))))
    · exact h1.2 (.inr (.inr (.inr (.inr e))))
  · rcases hx with hx | hx
    · exact Nat.lt_of_lt_of_le (h.lt x hx) hk.size
    · exact hx.2
/-- The seat's row of texts was written anew. -/
theorem Seb.texts {w w' : World} {p : Nat} {M : Nat → Prop} {d : Sd} {vt' : Value} {n : Nat} {xs : List Value} (h : Seb w p M d) (hp : w'.heap[p]? = some (.cells (scs d.vb vt' d.vv d.vu) 32 (0, 0))) (ho : w'.ownsRow 0 9 1 vt' n xs) (hk : Kp (fun q => q = p ∨ d.vt.ownBlock = some q) w w') (hn : ∀ q, vt'.ownBlock = some q → d.vt.ownBlock = some q ∨ w.heap.size ≤ q) :
    Seb w' p (fun q => M q ∨ (w.heap.size ≤ q ∧ q < w'.heap.size)) { d with vt := vt', nt := n, xt := xs } := by
  have hnb : ∀ q, vt'.ownBlock = some q → M q ∨ (w.heap.size ≤ q ∧ q < w'.heap.size) := fun q hq => (hn q hq).imp (fun e => h.mo q (.inr (.inr (.inl e)))) (fun e => ⟨e, (ho.lt q hq).2⟩)
  refine ⟨hp, hk.owns h.fb (fun q hq e => ?_), ho, hk.owns h.fv (fun q hq e => ?_), hk.owns h.fu (fun q hq e => ?_), fun q hq => ?_, fun i hi x hx => ⟨.inl (h.ms i hi x hx).1, fun e => ?_⟩, h.md, fun x hx => ?_⟩
  · rcases e with e | e
    · exact own_not h.fb h.fp (by decide) (by rw [hq, e])
    · exact own_apart h.fb h.ft (by decide) hq e
  · rcases e with e | e
    · exact own_not h.fv h.fp (by decide) (by rw [hq, e])
    · exact own_apart h.fv h.ft (by decide) hq e
  · rcases e with e | e
    · exact own_not h.fu h.fp (by decide) (by rw [hq, e])
    · exact own_apart h.fu h.ft (by decide) hq e
  · rcases hq with e | e | e | e | e
    · exact .inl (h.mo q (.inl e))
    · exact .inl (h.mo q (.inr (.inl e)))
    · exact hnb q e
    · exact .inl (h.mo q (.inr (.inr (.inr (.inl e)))))
    · exact .inl (h.mo q (.inr (.inr (.inr (.inr e)))))
  · have h1 := h.ms i hi x hx
    have h2 := h.lt x h1.1
    rcases e with e | e | e | e | e
    · exact h1.2 (.inl e)
    · exact h1.2 (.inr (.inl e))
    · rcases hn x e with h3 | h3
      · exact h1.2 (.inr (.inr (.inl h3)))
      · omega
    · exact h1.2 (.inr (.inr (.inr (.inl e))))
    · exact h1.2 (.inr (.inr (.inr (.inr e))))
  · rcases hx with hx | hx
    · exact Nat.lt_of_lt_of_le (h.lt x hx) hk.size
    · exact hx.2
theorem Seb.vb_inn {w : World} {p : Nat} {M : Nat → Prop} {d : Sd} (h : Seb w p M d) : ∀ q, d.vb.ownBlock = some q ∨ d.vt.ownBlock = some q → ¬ d.inn p q := fun q hq e => by
  rcases e with e | e | e | ⟨i, hi, e⟩
  · rcases hq with hq | hq
    · exact own_not h.fb h.fp (by decide) (by rw [hq, e])
    · exact own_not h.ft h.fp (by decide) (by rw [hq, e])
  · rcases hq with hq | hq
    · exact own_apart h.fb h.fv (by decide) hq e
    · exact own_apart h.ft h.fv (by decide) hq e
  · rcases hq with hq | hq
    · exact own_apart h.fb h.fu (by decide) hq e
    · exact own_apart h.ft h.fu (by decide) hq e
  · have h1 := (h.ms i hi q e).2
    rcases hq with hq | hq
    · exact h1 (.inr (.inl hq))
    · exact h1 (.inr (.inr (.inl hq)))
/-- The seat's values were laid anew: it is a seat again. -/
theorem Svs.seb {w wx : World} {p : Nat} {M : Nat → Prop} {d d' : Sd} {ts : List Tv} {L : List (Array Value)} (hb : Seb w p M d) (h : Svs w wx p d d' ts L) :
    Seb wx p (fun q => M q ∨ (w.heap.size ≤ q ∧ q < wx.heap.size)) { d' with vb := d.vb, vt := d.vt, nb := d.nb, nt := d.nt, xb := d.xb, xt := d.xt, nv := L.length, xv := vfl L } := by
  have hin : ∀ q, d'.inn p q → q < wx.heap.size → M q ∨ (w.heap.size ≤ q ∧ q < wx.heap.size) := fun q hq hl => (h.nw q hq).imp (hb.inn q) (fun e => ⟨e, hl⟩)
  refine ⟨h.fp, h.k.owns hb.fb (fun q hq => hb.vb_inn q (.inl hq)), h.k.owns hb.ft (fun q hq => hb.vb_inn q (.inr hq)), h.fv, h.fu, fun q hq => ?_, fun i hi x hx => ⟨hin x (.inr (.inr (.inr ⟨i, hi, hx⟩))) (h.lt hi hx), fun e => ?_⟩, h.md, fun x hx => ?_⟩
  · rcases hq with e | e | e | e | e
    · exact .inl (hb.mo q (.inl e))
    · exact .inl (hb.mo q (.inr (.inl e)))
    · exact .inl (hb.mo q (.inr (.inr (.inl e))))
    · exact hin q (.inr (.inl e)) (h.fv.lt q e).2
    · exact hin q (.inr (.inr (.inl e))) (h.fu.lt q e).2
  · have h1 := h.ms i hi x hx
    have h2 : ∀ q, d.vb.ownBlock = some q ∨ d.vt.ownBlock = some q → q ≠ x := fun q hq e2 => by
      subst e2
      rcases h.nw q (.inr (.inr (.inr ⟨i, hi, hx⟩))) with h3 | h3
      · exact hb.vb_inn q hq h3
      · have h4 : M q := hq.elim (fun e => hb.mo q (.inr (.inl e))) (fun e => hb.mo q (.inr (.inr (.inl e))))
        have := hb.lt q h4
        omega
    rcases e with e | e | e | e | e
    · exact h1.1 e
    · exact h2 x (.inl e) rfl
    · exact h2 x (.inr e) rfl
    · exact h1.2.1 e
    · exact h1.2.2 e
  · rcases hx with hx | hx
    · exact Nat.lt_of_lt_of_le (hb.lt x hx) h.z
    · exact hx.2
/-- The value that was laid lies all in the seat. -/
theorem Svs.tiw {w wx : World} {p : Nat} {M : Nat → Prop} {d d' : Sd} {t : Tv} {L : List (Array Value)} (hb : Seb w p M d) (h : Svs w wx p d d' t.is L) (hL : L.length = t.is.length) (ht : Tbd t) (hyb : ∀ x ∈ t.y, x < 256) (hkz : ∀ s ∈ t.ks, s.size ≤ 140737488351232) (hkl : t.ks.length ≤ 140737488351232) (hil : t.is.length ≤ 140737488351232)
    (hy : wx.ownsRow 0 5 1 d.vb t.y.length (bv t.y)) (hk : wx.ownsRow 0 9 1 d.vt t.ks.length (sv t.ks)) : Tiw wx (fun q => M q ∨ (w.heap.size ≤ q ∧ q < wx.heap.size)) t (vcs t d.vb d.vt d'.vv) := by
  intro w2 h2
  have hin : ∀ q, d'.inn p q → q < wx.heap.size → M q ∨ (w.heap.size ≤ q ∧ q < wx.heap.size) := fun q hq hl => (h.nw q hq).imp (hb.inn q) (fun e => ⟨e, hl⟩)
  have oy := h2.owns hy (fun q hq e => e (.inl (hb.mo q (.inr (.inl hq)))))
  have ok := h2.owns hk (fun q hq e => e (.inl (hb.mo q (.inr (.inr (.inl hq))))))
  have ov := h2.owns h.fv (fun q hq e => e (hin q (.inr (.inl hq)) (h.fv.lt q hq).2))
  refine Tin.of (BSl.own oy hyb) (SSl.own ok rfl hkl hkz) ?_ ht
  rcases id ov.2 with ⟨e, h0⟩ | ⟨g, cap, cur, e, _, _, h1, _⟩
  · have e2 : t.is = [] := List.length_eq_zero_iff.1 (by omega)
    rw [e, e2]
    exact ⟨⟨none, 0, rfl, ⟨by simp, fun _ => rfl⟩, .inl rfl⟩, by simp⟩
  · rw [e] at ov ⊢
    refine ⟨⟨_, cap, by rw [hL], ⟨by omega, fun h => by cases h⟩, .inr ⟨g, 0, rfl, fun i u hu => ?_⟩⟩, hil⟩
    have hl := (List.getElem?_eq_some_iff.1 hu).1
    have hc : L[i]? = some (L[i]'(by omega)) := List.getElem?_eq_getElem (by omega)
    obtain ⟨hi, hti⟩ := h.t i u _ hu hc
    refine ⟨_, hti w2 (h2.mono (fun q _ e hM => e (hin q (.inr (.inr (.inr ⟨i, hi, hM⟩))) (h.lt hi hM)))), fun j v hj => ?_⟩
    rw [Nat.zero_add]
    exact own_val ov h.s hc j v hj
end
section
open Go.RowKit Go
theorem Tis.parts {w : World} {S : Nat → Prop} {t : Tv} {c : Array Value} (h : Tis w S t c) : ∃ vy vk a cap, ∃ cx : Nat → Array Value, c = vcs t vy vk (.slice a t.is.length cap) ∧ Tbd t ∧ BSl w vy t.y ∧ SSl w vk t.ks ∧ (∀ (i : Nat) (u : Tv), t.is[i]? = some u → Tis w S u (cx i)) ∧ t.is.length ≤ 140737488351232 ∧ (t.is = [] ∨ ∃ b off, a = some ⟨b, off, none⟩ ∧ ¬ S b ∧ ∀ i, i < t.is.length → ∀ j x, (cx i)[j]? = some x → w.cell? ⟨b, off + i * 13 + j, none⟩ = some x) ∧ (t.y ≠ [] → ∀ q, vy.ownBlock = some q → ¬ S q) ∧ (t.ks ≠ [] → ∀ q, vk.ownBlock = some q → ¬ S q) := by
  cases h with
  | mk _ vy vk vi hb hy hys hk hks cs a cap hv hc hm hi ha =>
    subst hv
    exact ⟨vy, vk, a, cap, cs, rfl, hb, hy, hk, hi, hm, ha, hys, hks⟩
theorem end_sv {wx : World} {R : Nat} {c : Array Value} {tmps : Array Value} (hn : c.size = 13) (hr : wx.heap[R]? = some (.cells c 38 (0, 0))) (hp : tmps.getD 4 undef = .pointer (some ⟨R, 0, none⟩)) : (results Tryd.f6 tmps).run Tryd.prog wx = .ok (.agg c) wx := by
  refine (results_one (p := 4) (ty := 38) rfl _ _ _).trans ?_
  rw [hp]
  have h1 := run_loadVar_row (P := Tryd.prog) wx R 38 38 c (0, 0) _ hr Tryd.underlying38 rfl (by rw [hn]; exact infoV)
  simp [asAddr, h1, Result.andThen]
theorem muchL_in6 {u : Tv} : ∀ {l : List Tv}, u ∈ l → tmuch u ≤ tmuchL l
  | t :: r, h => by
    rw [tmuchL]
    rcases List.mem_cons.1 h with rfl | h
    · omega
    · have := muchL_in6 h
      omega
theorem much_in6 {t u : Tv} (h : u ∈ t.is) : tmuch u ≤ tmuch t := by
  have := muchL_in6 h
  rw [tmuch_eq t]
  omega
theorem muchL_len6 : ∀ l : List Tv, l.length ≤ tmuchL l
  | [] => by simp
  | t :: r => by
    have h1 := muchL_len6 r
    have h2 : 1 ≤ tmuch t := by rw [tmuch_eq]; omega
    rw [tmuchL, List.length_cons]
    omega
theorem much_len6 {t : Tv} {N : Nat} (h : tmuch t ≤ N) : t.is.length ≤ N := by
  have := muchL_len6 t.is
  rw [tmuch_eq] at h
  omega
/-- What Value has of its own: the value handed in, the answer's cells, the value that is made. -/
structure Fsv (w wx : World) (cs c5 : Array Value) : Prop where
  a : wx.heap[w.heap.size]? = some (.cells cs 38 (0, 0))
  z : wx.heap[w.heap.size + 1]? = some (.cells zv 38 (0, 0))
  r : wx.heap[w.heap.size + 2]? = some (.cells c5 38 (0, 0))
theorem Fsv.kp {w wx wy : World} {cs c5 : Array Value} {S : Nat → Prop} (h : Fsv w wx cs c5) (hk : Kp S wx wy) (hs : ∀ q, S q → q < w.heap.size ∨ w.heap.size + 3 ≤ q) : Fsv w wy cs c5 :=
  ⟨(hk.block _ (blk_lt h.a) (fun e => by have := hs _ e; omega)).trans h.a, (hk.block _ (blk_lt h.z) (fun e => by have := hs _ e; omega)).trans h.z, (hk.block _ (blk_lt h.r) (fun e => by have := hs _ e; omega)).trans h.r⟩
theorem Fsv.set {w wx : World} {cs c5 : Array Value} (h : Fsv w wx cs c5) (j : Nat) (v : Value) : Fsv w (wx.setCell ⟨w.heap.size + 2, j, none⟩ v) cs (c5.setIfInBounds j v) :=
  ⟨blk_other _ _ h.a (by omega), blk_other _ _ h.z (by omega), blk_set j v h.r⟩
set_option maxRecDepth 1000000 in
set_option maxHeartbeats 4000000 in
theorem svalue_step (t : Tv) (ih : ∀ u ∈ t.is, SvC u) : SvC t := by
  intro w p M cs hsea ht hm
  cases hsea with
  | mk _ _ d h hc =>
  have HIH := hide ih
  have HH := hide h
  have HC := hide hc
  have HT := hide ht
  have HM := hide hm
  have HSZ := hide ht.tin.size13
  have HA1 := hide ht.tin.all1
  have HLT := hide h.lt
  obtain ⟨vy, vk, a, cap, cx, hcs, htb, hby, hsk, hti, hil, hat, hys, hks⟩ := ht.parts
  have HCS := hide hcs
  have HTB := hide htb
  have HBY := hide hby
  have HSK := hide hsk
  have HTI := hide hti
  have HIL := hide hil
  have HAT := hide hat
  have HKS := hide hks
  obtain ⟨⟨ay, cy, hvy, _, _⟩, _, _⟩ := id hby
  obtain ⟨⟨ak, ck, hvk, _, _⟩, _, _⟩ := id hsk
  have HVY := hide hvy
  have HVK := hide hvk
  clear ih h hc ht hm hcs htb hby hsk hti hil hat hys hks hvy hvk
  have hb2 : Below w.heap.size w ((w.alloc (.cells cs 38)).alloc (.cells zv 38)) := (below_alloc4 w _).trans ((below_alloc4 _ _).mono (below_alloc4 w _).size)
  have hz1 : (w.alloc (.cells cs 38)).heap.size = w.heap.size + 1 := by simp
  have hg1 : ((w.alloc (.cells cs 38)).alloc (.cells zv 38)).heap[w.heap.size]? = some (.cells cs 38 (0, 0)) := blk_alloc _ (heap_alloc_new w (.cells cs 38))
  have hg2 := heap_alloc_new (w.alloc (.cells cs 38)) (.cells zv 38)
  rw [hz1] at hg2
  have hz2 : ((w.alloc (.cells cs 38)).alloc (.cells zv 38)).heap.size = w.heap.size + 2 := by simp
  have HB2 := hide hb2
  have HG1 := hide hg1
  have HG2 := hide hg2
  have HZ2 := hide hz2
  clear hb2 hz1 hg1 hg2 hz2
  go_enter Tryd.func6, Tryd.ntmps6
  go_upto_region 1 with fail
  unfold zv at HB2 HG1 HG2 HZ2
  generalize (w.alloc (.cells cs 38)).alloc (.cells #[.int .i64 0, .bool false, .bool false, .int .u64 0, .int .u64 0, .string ⟨#[]⟩, .slice none 0 0, .int .i64 0, .int .u64 0, .int .u64 0, .string ⟨#[]⟩, .slice none 0 0, .slice none 0 0] 38) = w2 at *
  have HV1 : Hid (∀ j u, cs[j]? = some u → w2.cell? ⟨w.heap.size, 0 + j, none⟩ = some u) := fun j u hu => by rw [Nat.zero_add]; exact blk_cell HG1.out hu
  have HI := hide (itm_mk w2 cs)
  have HG0 := hide (heap_alloc_new w2 (.cells zv 38))
  have HIN : Hid ((Tryd.prog.info? 38).map (·.size) = some cs.size) := by show _ = _; rw [HSZ.out]; exact infoV
  have HZV : Hid (zv.size = cs.size) := by show _ = _; rw [HSZ.out]; rfl
  go_upto_region 2 with (first
    | (refine wpList_exec rfl (exec_valAt (g := w.heap.size) (off := 0) (cs := cs) rfl rfl HSZ.out HV1.out) ?_)
    | (refine wpList_storeRow rfl rfl w2.heap.size zv cs 38 rfl rfl HG0.out HIN.out HZV.out HA1.out ?_))
  unfold zv at HI
  generalize hw3 : (w2.alloc (.cells #[.int .i64 0, .bool false, .bool false, .int .u64 0, .int .u64 0, .string ⟨#[]⟩, .slice none 0 0, .int .i64 0, .int .u64 0, .int .u64 0, .string ⟨#[]⟩, .slice none 0 0, .slice none 0 0] 38)).setRow w2.heap.size cs = w3 at *
  have hz2 := HZ2.out
  have HF3 : Hid (Fsv w w3 cs cs) := by
    refine ⟨(HI.out.b.block _ (blk_lt HG1.out)).trans HG1.out, (HI.out.b.block _ (blk_lt HG2.out)).trans HG2.out, ?_⟩
    rw [← hz2]
    exact HI.out.r
  have HB3 : Hid (Below w.heap.size w w3) := HB2.out.trans (HI.out.b.mono HB2.out.size)
  have HZ3 : Hid (w3.heap.size = w.heap.size + 3) := by show _ = _; rw [HI.out.z, hz2]
  clear HV1 HI HG0 HIN HZV HG1 HG2 HB2 hw3
  rw [hz2]
  clear hz2 HZ2
  have HH3 := hide (HH.out.kp (Kp.of_below (S := fun _ => False) HB3.out) (fun _ _ e => e))
  have HC3 : Hid (∀ (i q : Nat), d.qs[i]? = some q → Sea w3 q (d.Ms i)) := fun i q hq => (HC.out i q hq).next HB3.out
  have HOL : Hid (∀ q, d.own p q → q < w.heap.size) := fun q hq => HLT.out q (HH.out.mo q hq)
  have HML : Hid (∀ i, i < d.qs.length → ∀ x, d.Ms i x → x < w.heap.size) := fun i hi x hx => HLT.out x (HH.out.ms i hi x hx).1
  have q6 : w3.cell? ⟨w.heap.size, 6, none⟩ = some (.slice ay t.y.length cy) := blk_cell (j := 6) HF3.out.a (by rw [HCS.out, HVY.out]; rfl)
  have HBY3 : Hid (BSl w3 (.slice ay t.y.length cy) t.y) := by have h := HBY.out.move (keep_below HB3.out); rw [HVY.out] at h; exact h
  go_wp2_with fail
  refine (sbytes_any w3 p d.vb d.vt d.vv d.vu d.nb d.xb HH3.out.fp HH3.out.fb _ t.y HBY3.out HTB.out.y).mono ?_
  rintro e w4 ⟨vb', rfl, hp4, ho4, hk4, hn4⟩
  obtain ⟨ab, cb, hvb⟩ := row_slice ho4
  subst hvb
  have HE4 := hide (HH3.out.bytes hp4 ho4 hk4 hn4)
  have HF4 := hide (HF3.out.kp hk4 (fun q e => .inl (e.elim (fun e => HOL.out q (.inl e)) (fun e => HOL.out q (.inr (.inl e))))))
  have HK4 : Hid (Kp M w w4) := (Kp.of_below (S := M) HB3.out).trans hk4 (fun q _ e => e.elim (fun e => HH.out.mo q (.inl e)) (fun e => HH.out.mo q (.inr (.inl e))))
  have HC4 : Hid (∀ (i q : Nat), d.qs[i]? = some q → Sea w4 q (d.Ms i)) := fun i q hq => (HC3.out i q hq).kp hk4 (fun x hx e => (HH.out.ms i (List.getElem?_eq_some_iff.1 hq).1 x hx).2 (e.elim (fun e => .inl e) (fun e => .inr (.inl e))))
  have HZ34 : Hid (w3.heap.size ≤ w4.heap.size) := hk4.size
  have k5 : Kp (fun q => q = w.heap.size + 2) w4 (w4.setCell ⟨w.heap.size + 2, 6, none⟩ (.slice ab t.y.length cb)) := (Kp.refl _ _).setCell _ _ (fun _ => rfl)
  have HF5 := hide (HF4.out.set 6 (.slice ab t.y.length cb))
  have HK5 : Hid (Kp M w (w4.setCell ⟨w.heap.size + 2, 6, none⟩ (.slice ab t.y.length cb))) := HK4.out.trans k5 (fun q hq e => by omega)
  have HE5 := hide (HE4.out.kp k5 (fun q hq e => by
    have h1 := HE4.out.mo q hq
    have h2 := HZ3.out
    rcases h1 with h1 | h1
    · have := HLT.out q h1
      omega
    · omega))
  have HC5 : Hid (∀ (i q : Nat), d.qs[i]? = some q → Sea (w4.setCell ⟨w.heap.size + 2, 6, none⟩ (.slice ab t.y.length cb)) q (d.Ms i)) := fun i q hq => (HC4.out i q hq).kp k5 (fun x hx e => by have := HML.out i (List.getElem?_eq_some_iff.1 hq).1 x hx; omega)
  have c6 : w4.cell? ⟨w.heap.size + 2, 6, none⟩ = some (.slice ay t.y.length cy) := blk_cell (j := 6) HF4.out.r (by rw [HCS.out, HVY.out]; rfl)
  have f6 : w4.frozen? ⟨w.heap.size + 2, 6, none⟩ = false := blk_frozen 6 HF4.out.r
  have HZ45 : Hid ((w4.setCell ⟨w.heap.size + 2, 6, none⟩ (.slice ab t.y.length cb)).heap.size = w4.heap.size) := by show _ = _; simp [World.setCell]
  have q11 : (w4.setCell ⟨w.heap.size + 2, 6, none⟩ (.slice ab t.y.length cb)).cell? ⟨w.heap.size, 11, none⟩ = some (.slice ak t.ks.length ck) := blk_cell (j := 11) HF5.out.a (by rw [HCS.out, HVK.out]; rfl)
  clear hp4 ho4 hk4 hn4 k5 q6 HF3 HF4 HE4 HC3 HC4 HK4 HBY3 HH3
  go_upto_region 3 with fail
  generalize w4.setCell ⟨w.heap.size + 2, 6, none⟩ (.slice ab t.y.length cb) = w5 at *
  clear c6 f6
  have HSK5 : Hid (SSl w5 (.slice ak t.ks.length ck) t.ks) := by
    show SSl _ _ _
    rw [← HVK.out]
    by_cases e : t.ks = []
    · have h := HSK.out
      rw [e] at h ⊢
      exact ssl_nil6 h
    · exact HK5.out.ssl HSK.out (HKS.out e)
  go_wp2_with fail
  refine (stexts_any w5 p _ d.vt d.vv d.vu d.nt d.xt HE5.out.fp HE5.out.ft _ t.ks HSK5.out (by have := HM.out; rw [tmuch_eq] at this; omega)).mono ?_
  rintro e w6 ⟨vt', rfl, hp6, ho6, hk6, hn6⟩
  obtain ⟨at6, ct6, hvt⟩ := row_slice ho6
  subst hvt
  have HE6 := hide (HE5.out.texts hp6 ho6 hk6 hn6)
  have HF6 := hide (HF5.out.kp hk6 (fun q e => .inl (e.elim (fun e => HOL.out q (.inl e)) (fun e => HOL.out q (.inr (.inr (.inl e)))))))
  have HK6 : Hid (Kp M w w6) := HK5.out.trans hk6 (fun q _ e => e.elim (fun e => HH.out.mo q (.inl e)) (fun e => HH.out.mo q (.inr (.inr (.inl e)))))
  have HC6 : Hid (∀ (i q : Nat), d.qs[i]? = some q → Sea w6 q (d.Ms i)) := fun i q hq => (HC5.out i q hq).kp hk6 (fun x hx e => (HH.out.ms i (List.getElem?_eq_some_iff.1 hq).1 x hx).2 (e.elim (fun e => .inl e) (fun e => .inr (.inr (.inl e)))))
  have HZ56 : Hid (w5.heap.size ≤ w6.heap.size) := hk6.size
  have HZ67 : Hid ((w6.setCell ⟨w.heap.size + 2, 11, none⟩ (.slice at6 t.ks.length ct6)).heap.size = w6.heap.size) := by show _ = _; simp [World.setCell]
  have k7 : Kp (fun q => q = w.heap.size + 2) w6 (w6.setCell ⟨w.heap.size + 2, 11, none⟩ (.slice at6 t.ks.length ct6)) := (Kp.refl _ _).setCell _ _ (fun _ => rfl)
  have HF7 := hide (HF6.out.set 11 (.slice at6 t.ks.length ct6))
  have HK7 : Hid (Kp M w (w6.setCell ⟨w.heap.size + 2, 11, none⟩ (.slice at6 t.ks.length ct6))) := HK6.out.trans k7 (fun q hq e => by omega)
  have HNW : Hid (∀ q, ((M q ∨ (w3.heap.size ≤ q ∧ q < w4.heap.size)) ∨ (w5.heap.size ≤ q ∧ q < w6.heap.size)) → M q ∨ w.heap.size + 3 ≤ q) := fun q hq => by
    have h1 := HZ3.out
    have h2 := HZ34.out
    have h3 := HZ45.out
    rcases hq with (hq | hq) | hq
    · exact .inl hq
    · exact .inr (by omega)
    · exact .inr (by omega)
  have HE7 := hide (HE6.out.kp k7 (fun q hq e => by
    rcases HNW.out q (HE6.out.mo q hq) with h1 | h1
    · have := HLT.out q h1
      omega
    · omega))
  have HC7 : Hid (∀ (i q : Nat), d.qs[i]? = some q → Sea (w6.setCell ⟨w.heap.size + 2, 11, none⟩ (.slice at6 t.ks.length ct6)) q (d.Ms i)) := fun i q hq => (HC6.out i q hq).kp k7 (fun x hx e => by have := HML.out i (List.getElem?_eq_some_iff.1 hq).1 x hx; omega)
  have c11 : w6.cell? ⟨w.heap.size + 2, 11, none⟩ = some (.slice ak t.ks.length ck) := blk_cell (j := 11) HF6.out.r (by rw [HCS.out, HVK.out]; rfl)
  have f11 : w6.frozen? ⟨w.heap.size + 2, 11, none⟩ = false := blk_frozen 11 HF6.out.r
  have q12 : (w6.setCell ⟨w.heap.size + 2, 11, none⟩ (.slice at6 t.ks.length ct6)).cell? ⟨w.heap.size, 12, none⟩ = some (.slice a t.is.length cap) := blk_cell (j := 12) HF7.out.a (by rw [HCS.out]; rfl)
  clear hp6 ho6 hk6 hn6 k7 q11 HF5 HF6 HE5 HE6 HC5 HC6 HK5 HK6 HSK5
  go_upto_region 4 with fail
  generalize w6.setCell ⟨w.heap.size + 2, 11, none⟩ (.slice at6 t.ks.length ct6) = w7 at *
  clear c11 f11
  have HTI7 : Hid (∀ (i : Nat) (u : Tv), t.is[i]? = some u → Tis w7 (fun q => (M q ∨ (w3.heap.size ≤ q ∧ q < w4.heap.size)) ∨ (w5.heap.size ≤ q ∧ q < w6.heap.size)) u (cx i)) := fun i u hu => ((HTI.out i u hu).widen.kp (HK7.out.mono (fun q _ e => .inl e))).mono (fun q hq => (HNW.out q hq).imp id (fun e => by omega))
  have HAT7 : Hid (t.is = [] ∨ ∃ b off, a = some ⟨b, off, none⟩ ∧ ¬ ((M b ∨ (w3.heap.size ≤ b ∧ b < w4.heap.size)) ∨ (w5.heap.size ≤ b ∧ b < w6.heap.size)) ∧ ∀ i, i < t.is.length → ∀ j x, (cx i)[j]? = some x → w7.cell? ⟨b, off + i * 13 + j, none⟩ = some x) := by
    by_cases e0 : t.is = []
    · exact .inl e0
    · obtain ⟨b, off, e, hMb, hcc⟩ := HAT.out.resolve_left e0
      have hl0 : 0 < t.is.length := List.length_pos_iff.2 e0
      obtain ⟨u0, hu0⟩ : ∃ u, t.is[0]? = some u := ⟨_, List.getElem?_eq_getElem hl0⟩
      have h13 := (HTI.out 0 u0 hu0).tin.size13
      have hbl : b < w.heap.size := cell_lt6 (hcc 0 hl0 0 _ (Array.getElem?_eq_getElem (by omega)))
      refine .inr ⟨b, off, e, fun h => ?_, fun i hi j x hx => HK7.out.cell (hcc i hi j x hx) hMb⟩
      rcases HNW.out b h with h1 | h1
      · exact hMb h1
      · omega
  have HV := hide (svalues_any t.is HIH.out (fun u hu => Nat.le_trans (much_in6 hu) HM.out) (much_len6 HM.out) w7 p _ _ HE7.out HC7.out a cap cx HTI7.out HAT7.out)
  clear HTI7 HAT7
  go_wp2_with fail
  refine HV.out.mono ?_
  rintro e w8 ⟨d', L, rfl, hL, hS⟩
  have HII : Hid (∀ q, Sd.inn { ({ d with vb := (.slice ab t.y.length cb), nb := t.y.length, xb := bv t.y } : Sd) with vt := (.slice at6 t.ks.length ct6), nt := t.ks.length, xt := sv t.ks } p q → M q) := fun q hq => by
    rcases hq with e | e | e | ⟨i, hi, e⟩
    · exact HH.out.mo q (.inl e)
    · exact HH.out.mo q (.inr (.inr (.inr (.inl e))))
    · exact HH.out.mo q (.inr (.inr (.inr (.inr e))))
    · exact (HH.out.ms i hi q e).1
  obtain ⟨av8, cv8, hvv⟩ := row_slice hS.fv
  rw [hL] at hvv
  have HF8 := hide (HF7.out.kp hS.k (fun q e => .inl (HLT.out q (HII.out q e))))
  have HK8 : Hid (Kp M w w8) := HK7.out.trans hS.k (fun q _ e => HII.out q e)
  have hti := hS.tiw HE7.out hL HTB.out HBY.out.byte HSK.out.size HSK.out.max HIL.out (hS.k.owns HE7.out.fb (fun q hq => HE7.out.vb_inn q (.inl hq))) (hS.k.owns HE7.out.ft (fun q hq => HE7.out.vb_inn q (.inr hq)))
  rw [hvv] at hti
  have HTW := hide hti
  have HSE : Hid (Sea w8 p _) := Sea.mk p _ _ (hS.seb HE7.out) (fun i q hq => hS.c i q hq)
  have HZ78 : Hid (w7.heap.size ≤ w8.heap.size) := hS.z
  have HN8 : Hid (∀ q, (((M q ∨ (w3.heap.size ≤ q ∧ q < w4.heap.size)) ∨ (w5.heap.size ≤ q ∧ q < w6.heap.size)) ∨ (w7.heap.size ≤ q ∧ q < w8.heap.size)) → M q ∨ w.heap.size + 3 ≤ q) := fun q hq => by
    rcases hq with hq | hq
    · exact HNW.out q hq
    · have h1 := HZ3.out
      have h2 := HZ34.out
      have h3 := HZ45.out
      have h4 := HZ56.out
      have h5 := HZ67.out
      exact .inr (by omega)
  have HN9 : Hid (∀ q, (((M q ∨ (w3.heap.size ≤ q ∧ q < w4.heap.size)) ∨ (w5.heap.size ≤ q ∧ q < w6.heap.size)) ∨ (w7.heap.size ≤ q ∧ q < w8.heap.size)) → ¬ (q = w.heap.size + 2 ∨ q = w.heap.size + 1)) := fun q hq e => by
    rcases HN8.out q hq with h1 | h1
    · have := HLT.out q h1
      omega
    · omega
  obtain ⟨c9, hc9⟩ : ∃ c9, c9 = (((cs.setIfInBounds 6 (.slice ab t.y.length cb)).setIfInBounds 11 (.slice at6 t.ks.length ct6)).setIfInBounds 12 (.slice av8 t.is.length cv8)) := ⟨_, rfl⟩
  have e9 : c9 = vcs t (.slice ab t.y.length cb) (.slice at6 t.ks.length ct6) (.slice av8 t.is.length cv8) := by rw [hc9, HCS.out]; rfl
  have HF9 : Hid (Fsv w (w8.setCell ⟨w.heap.size + 2, 12, none⟩ (.slice av8 t.is.length cv8)) cs c9) := by rw [hc9]; exact HF8.out.set 12 (.slice av8 t.is.length cv8)
  have c12 : w8.cell? ⟨w.heap.size + 2, 12, none⟩ = some (.slice a t.is.length cap) := blk_cell (j := 12) HF8.out.r (by rw [HCS.out]; rfl)
  have f12 : w8.frozen? ⟨w.heap.size + 2, 12, none⟩ = false := blk_frozen 12 HF8.out.r
  have k9 : Kp (fun q => q = w.heap.size + 2 ∨ q = w.heap.size + 1) w8 (w8.setCell ⟨w.heap.size + 2, 12, none⟩ (.slice av8 t.is.length cv8)) := (Kp.refl _ _).setCell _ _ (fun _ => .inl rfl)
  have HK89 := hide k9
  rw [← e9] at HTW
  have HT9 := hide HTW.out.tin.size13
  have HA9 := hide HTW.out.tin.all1
  rw [hvv]
  clear hS hL hti hvv hc9 e9 k9 HF7 HF8 HE7 HC7 HK7 HII HV q12
  go_upto_region 5 with fail
  generalize w8.setCell ⟨w.heap.size + 2, 12, none⟩ (.slice av8 t.is.length cv8) = w9 at *
  clear c12 f12
  have HV9 : Hid (∀ j u, c9[j]? = some u → w9.cell? ⟨w.heap.size + 2, 0 + j, none⟩ = some u) := fun j u hu => by rw [Nat.zero_add]; exact blk_cell HF9.out.r hu
  have HIN : Hid ((Tryd.prog.info? 38).map (·.size) = some c9.size) := by show _ = _; rw [HT9.out]; exact infoV
  have HZV : Hid (zv.size = c9.size) := by show _ = _; rw [HT9.out]; rfl
  go_wp2_with (first
    | (refine wpList_exec rfl (exec_valAt (g := w.heap.size + 2) (off := 0) (cs := c9) rfl rfl HT9.out HV9.out) ?_)
    | (refine wpList_storeRow rfl rfl (w.heap.size + 1) zv c9 38 rfl rfl HF9.out.z HIN.out HZV.out HA9.out ?_))
  have kx : Kp (fun q => q = w.heap.size + 2 ∨ q = w.heap.size + 1) w8 (w9.setRow (w.heap.size + 1) c9) := HK89.out.trans ((row_kp w9 (w.heap.size + 1) c9).mono (fun _ _ e => .inr e)) (fun _ _ e => e)
  refine bodyPost_ret (end_sv HT9.out (row_same HF9.out.z) rfl) rfl ⟨c9, _, rfl, HSE.out.kp kx HN9.out, fun x hx => (HN8.out x hx).imp id (fun e => by omega), HK8.out.trans kx (fun q hq e => by omega), HTW.out.kp kx HN9.out⟩
theorem svalue_any (t : Tv) : SvC t := by
  have key : ∀ N, ∀ t : Tv, SizeOf.sizeOf t = N → SvC t := by
    intro N
    induction N using Nat.strongRecOn with
    | _ N ihN =>
      intro t hN
      exact svalue_step t fun u hu => ihN _ (by rw [← hN]; exact Tv.is_lt hu) u rfl
  exact key _ t rfl
end
end Go.Proofs.YtglbllkmhedlfaaDoor
