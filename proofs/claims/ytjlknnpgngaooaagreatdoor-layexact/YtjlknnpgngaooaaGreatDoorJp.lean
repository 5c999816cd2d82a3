import Derived.Test.YtjlknnpgngaooaaGreatDoorJl
import Derived.Test.YtjlknnpgngaooaaGreatDoorJi
import Derived.Test.YtjlknnpgngaooaaGreatDoorJk
import Derived.Test.YtjlknnpgngaooaaGreatDoorJe
import Derived.Test.YtjlknnpgngaooaaGreatDoorJc
import Derived.Test.YtjlknnpgngaooaaGreatDoorJd
import Derived.Test.YtjlknnpgngaooaaGreatDoorJf
import Derived.Test.YtjlknnpgngaooaaGreatDoorJo
namespace Go.Proofs.YtjlknnpgngaooaaGreatDoor
section
open Go.RowKit Go

end
section
open Go.RowKit Go

end
section
open Go.RowKit Go
/-- A variable that holds a lent value. -/
structure Vr (wx : World) (g : Nat) (c : Array Value) (u : Tv) : Prop where
  x : wx.heap[g]? = some (.cells c 65 (0, 0))
  l : ∃ lo hi, Ltv wx lo hi u c
theorem Vr.size {wx : World} {g : Nat} {c : Array Value} {u : Tv} (h : Vr wx g c u) : c.size = 13 := by obtain ⟨lo, hi, hl⟩ := h.l; exact hl.size
theorem Vr.cells {wx : World} {g : Nat} {c : Array Value} {u : Tv} (h : Vr wx g c u) : ∀ j x, c[j]? = some x → wx.cell? ⟨g, 0 + j, none⟩ = some x := fun j x hx => by rw [Nat.zero_add]; exact blk_cell h.x hx
end
section
open Go.RowKit Go
/-- Seat.Value of a value that does not lie in the seat. -/
def SvC (t : Tv) : Prop := ∀ (w : World) (p : Nat) (M : Nat → Prop) (cs : Array Value), Sea w p M → Tis w M t cs → tmuch t ≤ 100000 → Calls Tryz.prog 14 #[.pointer (some ⟨p, 0, none⟩), .agg cs] w fun e w' => ∃ cs' M', e = .returned (.agg cs') ∧ Sea w' p M' ∧ (∀ x, M' x → M x ∨ w.heap.size ≤ x) ∧ Kp M w w' ∧ Tiw w' M' t cs'
theorem Seb.inn {w : World} {p : Nat} {M : Nat → Prop} {d : Sd} (h : Seb w p M d) : ∀ x, d.inn p x → M x := fun x hx => by
  rcases hx with e | e | e | ⟨i, hi, e⟩
  · exact h.mo x (.inl e)
  · exact h.mo x (.inr (.inr (.inr (.inl e))))
  · exact h.mo x (.inr (.inr (.inr (.inr e))))
  · exact (h.ms i hi x e).1
theorem row_slice {w : World} {B e s n : Nat} {v : Value} {xs : List Value} (h : w.ownsRow B e s v n xs) : ∃ a c, v = .slice a n c := by
  rcases h.2 with ⟨e, h0⟩ | ⟨g, c, cur, e, _⟩
  · exact ⟨none, 0, by rw [e, h0]⟩
  · exact ⟨_, _, e⟩
/-- What is read in Values' last region, and never changed there. -/
def Sst (p : Nat) (vb vt vu : Value) (qs : List Nat) (b o : Nat) (cu : Array Value) (wy : World) : Prop := (∃ v4, wy.heap[p]? = some (.cells (scs vb vt v4 vu) 59 (0, 0))) ∧ wy.ownsRow 0 52 1 vu qs.length (sps qs) ∧ ∀ j x, cu[j]? = some x → wy.cell? ⟨b, o + j, none⟩ = some x
theorem Sst.kp {p : Nat} {vb vt vu : Value} {qs : List Nat} {b o : Nat} {cu : Array Value} {wy wz : World} {S : Nat → Prop} (h : Sst p vb vt vu qs b o cu wy) (hk : Kp S wy wz) (hp : ¬ S p) (hu : ∀ q, vu.ownBlock = some q → ¬ S q) (hb : ¬ S b) : Sst p vb vt vu qs b o cu wz := by
  obtain ⟨⟨v4, h1⟩, h2, h3⟩ := h
  exact ⟨⟨v4, (hk.block p (blk_lt h1) hp).trans h1⟩, hk.owns h2 hu, fun j x hx => hk.cell (h3 j x hx) hb⟩
theorem Sst.set {p : Nat} {vb vt vu : Value} {qs : List Nat} {b o : Nat} {cu : Array Value} {wy : World} (h : Sst p vb vt vu qs b o cu wy) (v : Value) (hb : b ≠ p) (hu : ∀ q, vu.ownBlock = some q → ¬ q = p) : Sst p vb vt vu qs b o cu (wy.setCell ⟨p, 4, none⟩ v) := by
  obtain ⟨⟨v4, h1⟩, h2, h3⟩ := h
  have hk : Kp (fun q => q = p) wy (wy.setCell ⟨p, 4, none⟩ v) := (Kp.refl _ _).setCell _ _ (fun _ => rfl)
  exact ⟨⟨v, blk_set 4 v h1⟩, hk.owns h2 hu, fun j x hx => hk.cell (h3 j x hx) hb⟩
set_option maxRecDepth 1000000 in
set_option maxHeartbeats 4000000 in
theorem svalues_any (ts : List Tv) (ih : ∀ u ∈ ts, SvC u) (hmu : ∀ u ∈ ts, tmuch u ≤ 100000) (hlen : ts.length ≤ 100000) (w : World) (p : Nat) (M : Nat → Prop) (d : Sd) (h : Seb w p M d) (hc : ∀ (i q : Nat), d.qs[i]? = some q → Sea w q (d.Ms i)) (a : Option Addr) (cap : Nat) (cx : Nat → Array Value) (hi : ∀ (i : Nat) (u : Tv), ts[i]? = some u → Tis w M u (cx i))
    (ha : ts = [] ∨ ∃ b off, a = some ⟨b, off, none⟩ ∧ ¬ M b ∧ ∀ i, i < ts.length → ∀ j x, (cx i)[j]? = some x → w.cell? ⟨b, off + i * 13 + j, none⟩ = some x) :
    Calls Tryz.prog 39 #[.pointer (some ⟨p, 0, none⟩), .slice a ts.length cap] w fun e w' => ∃ d' L, e = .returned d'.vv ∧ L.length = ts.length ∧ Svs w w' p d d' ts L := by
  obtain ⟨av, cv, hvv⟩ := row_slice h.fv
  have q4 : w.cell? ⟨p, 4, none⟩ = some (.slice av d.nv cv) := by rw [← hvv]; exact blk_cell (j := 4) h.fp rfl
  have f4 : w.frozen? ⟨p, 4, none⟩ = false := blk_frozen 4 h.fp
  have HS0 := hide (Svs.start (ts := ts) h hc hvv)
  have HIN := hide h.inn
  have HIH := hide ih
  have HMU := hide hmu
  have HLN := hide hlen
  have HTS := hide hi
  have HA := hide ha
  clear h hc hvv ih hmu hi ha
  go_enter Tryz.func39, Tryz.ntmps39
  go_wp2_with fail
  generalize w.setCell ⟨p, 4, none⟩ (.slice av 0 cv) = w1 at *
  go_loopw [5] (fun q wr => ∃ i : Nat, i ≤ ts.length ∧ q = .int .i64 (i : Nat) ∧ Hid (∃ d' L, L.length = i ∧ Svs w wr p d d' ts L)) (fun q _ => ts.length - (intOf q).toNat)
  case atStart => exact ⟨0, Nat.zero_le _, rfl, _, [], rfl, HS0.out⟩
  case round =>
    rename World => wr
    obtain ⟨i, hi, rfl, HR⟩ := hrel
    obtain ⟨d1, L, hL, hS⟩ := HR.out
    subst hL
    have HS1 := hide hS
    clear hS HR HS0 q4 f4
    by_cases hlt : L.length < ts.length
    · have g1 : (L.length : Int) < (ts.length : Int) := by omega
      have HLT := hide hlt
      obtain ⟨au, cu, hvu⟩ := row_slice HS1.out.fu
      have q5 : wr.cell? ⟨p, 5, none⟩ = some (.slice au d1.qs.length cu) := by rw [← hvu]; exact blk_cell (j := 5) HS1.out.fp rfl
      have f5 : wr.frozen? ⟨p, 5, none⟩ = false := blk_frozen 5 HS1.out.fp
      have HVU1 := hide hvu
      clear hvu
      have hle := HS1.out.q
      by_cases hq : L.length = d1.qs.length
      · have g2 : ((L.length : Int) == (d1.qs.length : Int)) = true := beq_iff_eq.2 (by omega)
        have HQ := hide hq
        have HFU : Hid ((wr.alloc (.cells (scs (.slice none 0 0) (.slice none 0 0) (.slice none 0 0) (.slice none 0 0)) 59)).ownsRow 0 52 1 (.slice au d1.qs.length cu) d1.qs.length (sps d1.qs)) := by
          have h := (HS1.out.next (below_alloc4 wr (.cells (scs (.slice none 0 0) (.slice none 0 0) (.slice none 0 0) (.slice none 0 0)) 59))).fu
          rw [HVU1.out] at h
          exact h
        have hsz : (wr.alloc (.cells (scs (.slice none 0 0) (.slice none 0 0) (.slice none 0 0) (.slice none 0 0)) 59)).heap.size = wr.heap.size + 1 := by simp
        have HSZ := hide hsz
        have HQL : Hid (d1.qs.length < 1099511627776) := by show _ < _; have := HLN.out; omega
        clear hsz hq hle hlt hi
        go_wp2_with (at_builtin; refine append_sp rfl _ _ rfl _ d1.qs.length (sps d1.qs) rfl HFU.out (.pointer (some ⟨wr.heap.size, 0, none⟩)) (wr.heap.size + 1) HSZ.out rfl rfl HQL.out ?_)
        intro vu' w2 ho2 hg2 hn2
        obtain ⟨au2, cu3, hvu2⟩ := row_slice ho2
        subst hvu2
        have hbs := below_alloc4 (wr.alloc (.cells (scs (.slice none 0 0) (.slice none 0 0) (.slice none 0 0) (.slice none 0 0)) 59)) (.cells #[.pointer (some ⟨wr.heap.size, 0, none⟩)] 52)
        have hk2 : Kp (fun q => d1.vu.ownBlock = some q) (wr.alloc (.cells (scs (.slice none 0 0) (.slice none 0 0) (.slice none 0 0) (.slice none 0 0)) 59)) w2 := (Kp.of_below (S := fun q => d1.vu.ownBlock = some q) hbs).grown hg2 (fun q _ e => by rw [HVU1.out]; exact e)
        have hmore := HS1.out.more (vu' := (.slice au2 (d1.qs.length + 1) cu3)) hk2 (by rw [sps, List.map_append]; exact ho2) (fun q hq => by
          rcases hn2 with e | e
          · left
            rw [HVU1.out, ← e]
            exact hq
          · right
            rw [e] at hq
            injection hq with hq
            have := HSZ.out
            omega)
        have fp2 := (hk2.block p (by have h1 := blk_lt HS1.out.fp; have h2 := HSZ.out; omega) (fun e => own_not HS1.out.fu HS1.out.fp (by decide) e)).trans (blk_alloc _ HS1.out.fp)
        have q5b : w2.cell? ⟨p, 5, none⟩ = some d1.vu := blk_cell (j := 5) fp2 rfl
        have f5b : w2.frozen? ⟨p, 5, none⟩ = false := blk_frozen 5 fp2
        obtain ⟨d2, hS2, hQ2⟩ : ∃ d2, Svs w (w2.setCell ⟨p, 5, none⟩ (.slice au2 (d1.qs.length + 1) cu3)) p d d2 ts L ∧ L.length < d2.qs.length := ⟨_, hmore, by show L.length < (d1.qs ++ [wr.heap.size]).length; rw [List.length_append, List.length_singleton, HQ.out]; omega⟩
        have HS2 := hide hS2
        have HQ2 := hide hQ2
        clear hS2 hQ2 hmore hk2 hbs ho2 hg2 hn2 fp2 q5 f5 HFU HSZ HQL HS1
        go_upto_region 7 with fail
        generalize w2.setCell ⟨p, 5, none⟩ (.slice au2 (d1.qs.length + 1) cu3) = wd at *
        have g3 : (L.length : Int) < (d2.qs.length : Int) := by have := HQ2.out; omega
        clear q5b f5b g2
        obtain ⟨g, hg⟩ : ∃ g, d2.qs[L.length]? = some g := ⟨_, List.getElem?_eq_getElem HQ2.out⟩
        obtain ⟨u, hu⟩ : ∃ u, ts[L.length]? = some u := ⟨_, List.getElem?_eq_getElem HLT.out⟩
        obtain ⟨b, off, rfl, hMb, hcc⟩ := HA.out.resolve_left (fun h => by have := HLT.out; rw [h] at this; simp at this)
        obtain ⟨av2, cv2, hvv2⟩ := row_slice HS2.out.fv
        obtain ⟨gu, cu2, hvu2⟩ : ∃ gu cu2, d2.vu = .slice (some ⟨gu, 0, none⟩) d2.qs.length cu2 := by
          have hq := HQ2.out
          rcases HS2.out.fu.2 with ⟨_, h0⟩ | ⟨g', c', cur, e, _⟩
          · omega
          · exact ⟨g', c', e⟩
        have HG2 := hide hg
        have HU2 := hide hu
        have HVV := hide hvv2
        have HVU := hide hvu2
        have HUM : Hid (u ∈ ts) := List.mem_of_getElem? hu
        have HMQ : Hid (tmuch u ≤ 100000) := HMU.out u HUM.out
        have HBL0 : Hid (b < w.heap.size ∨ (cx L.length).size = 0) := by
          show _ ∨ _
          rcases Nat.eq_zero_or_pos (cx L.length).size with e | e
          · exact .inr e
          · exact .inl (cell_lt6 (hcc L.length HLT.out 0 _ (Array.getElem?_eq_getElem e)))
        have HCX : Hid ((cx L.length).size = 13) := (HTS.out L.length u hu).tin.size13
        have HBW : Hid (b < w.heap.size) := HBL0.out.resolve_right (by have := HCX.out; omega)
        have HBL : Hid (b < wd.heap.size) := Nat.lt_of_lt_of_le HBW.out HS2.out.z
        have HNI : Hid (∀ q, d2.inn p q → q ≠ b) := fun q hq e => by
          rcases HS2.out.nw q hq with h1 | h1
          · exact hMb (by rw [← e]; exact HIN.out q h1)
          · have := HBW.out
            omega
        have HNP : Hid (¬ d2.Ms L.length p) := fun e => (HS2.out.ms L.length HQ2.out p e).1 rfl
        have HNU : Hid (∀ q, (Value.slice (some ⟨gu, 0, none⟩) d2.qs.length cu2).ownBlock = some q → ¬ d2.Ms L.length q) := fun q hq e => (HS2.out.ms L.length HQ2.out q e).2.2 (by rw [hvu2]; exact hq)
        have HNV : Hid (∀ q, d2.vv.ownBlock = some q → ¬ d2.Ms L.length q) := fun q hq e => (HS2.out.ms L.length HQ2.out q e).2.1 hq
        have HNB : Hid (¬ d2.Ms L.length b) := fun e => HNI.out b (.inr (.inr (.inr ⟨_, HQ2.out, e⟩))) rfl
        have HWP : Hid (¬ d2.vv.ownBlock = some p) := own_not HS2.out.fv HS2.out.fp (by decide)
        have HWU : Hid (∀ q, (Value.slice (some ⟨gu, 0, none⟩) d2.qs.length cu2).ownBlock = some q → ¬ d2.vv.ownBlock = some q) := fun q hq e => own_apart HS2.out.fu HS2.out.fv (by decide) (by rw [hvu2]; exact hq) e
        have HWB : Hid (¬ d2.vv.ownBlock = some b) := fun e => HNI.out b (.inr (.inl e)) rfl
        have HUL : Hid (∀ q, (Value.slice (some ⟨gu, 0, none⟩) d2.qs.length cu2).ownBlock = some q → q < wd.heap.size) := fun q hq => (HS2.out.fu.lt q (by rw [hvu2]; exact hq)).2
        have HBP : Hid (b ≠ p) := fun e => HNI.out p (.inl rfl) e.symm
        have HUP : Hid (∀ q, (Value.slice (some ⟨gu, 0, none⟩) d2.qs.length cu2).ownBlock = some q → ¬ q = p) := fun q hq e => own_not HS2.out.fu HS2.out.fp (by decide) (by rw [hvu2, hq, e])
        have HP4 : Hid (∀ wy, Kp (d2.Ms L.length) wd wy → wy.cell? ⟨p, 4, none⟩ = some (.slice av2 L.length cv2)) := fun wy hk => by rw [← HVV.out]; exact blk_cell (j := 4) ((hk.block p (blk_lt HS2.out.fp) HNP.out).trans HS2.out.fp) rfl
        have HTI : Hid (∀ wy, Kp (d2.Ms L.length) wd wy → Tis wy (d2.Ms L.length) u (cx L.length)) := fun wy hk => by
          have h1 := ((HTS.out L.length u hu).widen.kp (HS2.out.k.mono (fun q _ e => .inl (HIN.out q e)))).mono (T := d2.Ms L.length) (fun q hq => (HS2.out.nw q (.inr (.inr (.inr ⟨_, HQ2.out, hq⟩)))).imp (HIN.out q) id)
          exact h1.kp hk
        have HS0 : Hid (Sst p d.vb d.vt (.slice (some ⟨gu, 0, none⟩) d2.qs.length cu2) d2.qs b (off + L.length * 13) (cx L.length) wd) := by
          refine ⟨⟨d2.vv, ?_⟩, ?_, fun j x hx => ?_⟩
          · have h1 := HS2.out.fp
            rw [hvu2] at h1
            exact h1
          · have h1 := HS2.out.fu
            rw [hvu2] at h1
            exact h1
          · exact HS2.out.k.cell (hcc L.length HLT.out j x hx) (fun e => hMb (HIN.out b e))
        clear hg hu hMb hcc hvv2 hvu2 HBL0
        go_wp2_with fail
        refine heldStart (S := Sst p d.vb d.vt (.slice (some ⟨gu, 0, none⟩) d2.qs.length cu2) d2.qs b (off + L.length * 13) (cx L.length)) (by kernel_rfl) ?_
        have HB1 : Hid (Below wd.heap.size wd wd.drew) := by refine Below.drew ?_; exact Below.refl _ _
        have HKc : Hid (Kp (d2.Ms L.length) wd wd.drew) := Kp.of_below HB1.out
        have hS : Sst p d.vb d.vt (.slice (some ⟨gu, 0, none⟩) d2.qs.length cu2) d2.qs b (off + L.length * 13) (cx L.length) wd.drew := HS0.out.kp (Kp.of_below (S := fun _ => False) HB1.out) (fun e => e) (fun _ _ e => e) (fun e => e)
        have HEc := hide ((HS2.out.c L.length g HG2.out).next HB1.out)
        clear HB1 HS0
        generalize wd.drew = wk at *
        refine heldTake 0 _ rfl (by kernel_rfl) (by kernel_rfl) (by kernel_rfl) (fun _ _ _ h => h) rfl hS (fun wy hy => by first | (go_simp; done) | (go_simp; rfl) | rfl) ?_
        (try simp only [Act.put]); (try simp only [List.setIfInBounds_toArray, List.set_cons_zero, List.set_cons_succ])
        refine heldTake 1 _ rfl (by kernel_rfl) (by kernel_rfl) (by kernel_rfl) (fun _ _ _ h => h) rfl hS (fun wy hy => by first | (go_simp; done) | (go_simp; rfl) | rfl) ?_
        (try simp only [Act.put]); (try simp only [List.setIfInBounds_toArray, List.set_cons_zero, List.set_cons_succ])
        refine heldTake 2 _ rfl (by kernel_rfl) (by kernel_rfl) (by kernel_rfl) (fun _ _ _ h => h) rfl hS (fun wy hy => by first | (go_simp; done) | (go_simp; rfl) | rfl) ?_
        (try simp only [Act.put]); (try simp only [List.setIfInBounds_toArray, List.set_cons_zero, List.set_cons_succ])
        refine heldTake 4 _ rfl (by kernel_rfl) (by kernel_rfl) (by kernel_rfl) (fun _ _ _ h => h) rfl hS (fun wy hy => by first | (go_simp; done) | (go_simp; rfl) | rfl) ?_
        (try simp only [Act.put]); (try simp only [List.setIfInBounds_toArray, List.set_cons_zero, List.set_cons_succ])
        refine heldTake 5 _ rfl (by kernel_rfl) (by kernel_rfl) (by kernel_rfl) (fun _ _ _ h => h) rfl hS (fun wy hy => by first | (go_simp; done) | (go_simp; rfl) | rfl) ?_
        (try simp only [Act.put]); (try simp only [List.setIfInBounds_toArray, List.set_cons_zero, List.set_cons_succ])
        refine heldTake 6 _ rfl (by kernel_rfl) (by kernel_rfl) (by kernel_rfl) (fun _ _ _ h => h) rfl hS (fun wy hy => by first | (go_simp; done) | (go_simp; rfl) | rfl) ?_
        (try simp only [Act.put]); (try simp only [List.setIfInBounds_toArray, List.set_cons_zero, List.set_cons_succ])
        refine heldTake 7 _ rfl (by kernel_rfl) (by kernel_rfl) (by kernel_rfl) (fun _ _ _ h => h) rfl hS (fun wy hy => by obtain ⟨v4, h4⟩ := hy.1; have h0 : wy.cell? ⟨p, 5, none⟩ = some (.slice (some ⟨gu, 0, none⟩) d2.qs.length cu2) := blk_cell (j := 5) h4 rfl; first | (go_simp; done) | (go_simp; rfl) | rfl) ?_
        (try simp only [Act.put]); (try simp only [List.setIfInBounds_toArray, List.set_cons_zero, List.set_cons_succ])
        refine heldTake 8 _ rfl (by kernel_rfl) (by kernel_rfl) (by kernel_rfl) (fun _ _ _ h => h) rfl hS (fun wy hy => by first | (go_simp; done) | (go_simp; rfl) | rfl) ?_
        (try simp only [Act.put]); (try simp only [List.setIfInBounds_toArray, List.set_cons_zero, List.set_cons_succ])
        refine heldTake 9 _ rfl (by kernel_rfl) (by kernel_rfl) (by kernel_rfl) (fun _ _ _ h => h) rfl hS (fun wy hy => by first | (go_simp; done) | (go_simp; rfl) | rfl) ?_
        (try simp only [Act.put]); (try simp only [List.setIfInBounds_toArray, List.set_cons_zero, List.set_cons_succ])
        refine heldTake 10 _ rfl (by kernel_rfl) (by kernel_rfl) (by kernel_rfl) (fun _ _ _ h => h) rfl hS (fun wy hy => by have h0 : wy.cell? ⟨gu, L.length, none⟩ = some (.pointer (some ⟨g, 0, none⟩)) := (own_cell hy.2.1 (j := L.length) (by simp [sps, HG2.out])).1; first | (go_simp; done) | (go_simp; rfl) | rfl) ?_
        (try simp only [Act.put]); (try simp only [List.setIfInBounds_toArray, List.set_cons_zero, List.set_cons_succ])
        refine heldTake 11 _ rfl (by kernel_rfl) (by kernel_rfl) (by kernel_rfl) (fun _ _ _ h => h) rfl hS (fun wy hy => by first | (go_simp; done) | (go_simp; rfl) | rfl) ?_
        (try simp only [Act.put]); (try simp only [List.setIfInBounds_toArray, List.set_cons_zero, List.set_cons_succ])
        refine heldTake 12 _ rfl (by kernel_rfl) (by kernel_rfl) (by kernel_rfl) (fun _ _ _ h => h) rfl hS (fun wy hy => by first | (go_simp; done) | (go_simp; rfl) | rfl) ?_
        (try simp only [Act.put]); (try simp only [List.setIfInBounds_toArray, List.set_cons_zero, List.set_cons_succ])
        refine heldTake 13 _ rfl (by kernel_rfl) (by kernel_rfl) (by kernel_rfl) (fun _ _ _ h => h) rfl hS (fun wy hy => by first | (go_simp; done) | (go_simp; rfl) | rfl) ?_
        (try simp only [Act.put]); (try simp only [List.setIfInBounds_toArray, List.set_cons_zero, List.set_cons_succ])
        refine heldTake 14 _ rfl (by kernel_rfl) (by kernel_rfl) (by kernel_rfl) (fun _ _ _ h => h) rfl hS (fun wy hy => exec_valAt (g := b) (off := off + L.length * 13) (cs := cx L.length) rfl rfl HCX.out hy.2.2) ?_
        (try simp only [Act.put]); (try simp only [List.setIfInBounds_toArray, List.set_cons_zero, List.set_cons_succ])
        refine wpAnyH_ready (rs := [3, 15, 17]) (by kernel_rfl) (by simp) ?_
        refine AllReadyH.cons rfl (fun K hK => ?_) (AllReadyH.cons rfl (fun K hK => ?_) (AllReadyH.cons rfl (fun K hK => ?_) AllReadyH.nil))
        · as_aux_lemma =>
          have x4 : wk.cell? ⟨p, 4, none⟩ = some (.slice av2 L.length cv2) := HP4.out wk HKc.out
          go_simp
          refine (Shut.out hK) _ _ hS (fun hS2 => ?_)
          clear hK K hS2 x4
          (try simp only [Act.put]); (try simp only [List.setIfInBounds_toArray, List.set_cons_zero, List.set_cons_succ])
          refine heldTake 16 _ rfl (by kernel_rfl) (by kernel_rfl) (by kernel_rfl) (fun _ _ _ h => h) rfl hS (fun wy hy => by first | (go_simp; done) | (go_simp; rfl) | rfl) ?_
          (try simp only [Act.put]); (try simp only [List.setIfInBounds_toArray, List.set_cons_zero, List.set_cons_succ])
          refine wpAnyH_ready (rs := [15, 17]) (by kernel_rfl) (by simp) ?_
          refine AllReadyH.cons rfl (fun K hK => ?_) (AllReadyH.cons rfl (fun K hK => ?_) AllReadyH.nil)
          · as_aux_lemma =>
            have hcl := HIH.out u HUM.out wk g (d2.Ms L.length) (cx L.length) HEc.out (HTI.out wk HKc.out) HMQ.out
            go_simp
            refine hcl.mono ?_
            rintro e wkc ⟨cc, M2, rfl, hse, hsm, hsk, hst⟩
            have HKn := hide (HKc.out.trans hsk (fun _ _ e => e))
            have hSn : Sst p d.vb d.vt (.slice (some ⟨gu, 0, none⟩) d2.qs.length cu2) d2.qs b (off + L.length * 13) (cx L.length) wkc := hS.kp hsk HNP.out HNU.out HNB.out
            have HEn := hide hse
            have HMn : Hid (∀ x, M2 x → d2.Ms L.length x ∨ wd.heap.size ≤ x) := fun x hx => (hsm x hx).imp id (fun e => Nat.le_trans HKc.out.size e)
            have HTn := hide hst
            refine (Shut.out hK) _ _ hSn (fun hS2 => ?_)
            clear hK K hS HKc HEc hcl hse hsm hsk hst 
            have hS := hS2
            clear hS2 hSn
            (try simp only [Act.put]); (try simp only [List.setIfInBounds_toArray, List.set_cons_zero, List.set_cons_succ])
            have HKc := HKn
            have HEc := HEn
            have HMc := HMn
            have HTc := HTn
            clear HKn HEn HMn HTn
            refine heldStep 17 rfl (by kernel_rfl) (fun K hK => ?_)
            have HZn : Hid ((wkc.alloc (.cells zv 65)).heap[wkc.heap.size]? = some (.cells zv 65 (0, 0)) ∧ wd.heap.size ≤ wkc.heap.size) := ⟨heap_alloc_new wkc _, HKc.out.size⟩
            have HBA := hide (below_alloc4 wkc (.cells zv 65))
            have hSn : Sst p d.vb d.vt (.slice (some ⟨gu, 0, none⟩) d2.qs.length cu2) d2.qs b (off + L.length * 13) (cx L.length) (wkc.alloc (.cells zv 65)) := hS.kp (Kp.of_below (S := fun _ => False) HBA.out) (fun e => e) (fun _ _ e => e) (fun e => e)
            have HKn := hide (HKc.out.trans (Kp.of_below (S := d2.Ms L.length) HBA.out) (fun _ _ e => e))
            have HEn := hide (HEc.out.next HBA.out)
            have HTn := hide (HTc.out.kp (Kp.of_below (S := fun _ => False) HBA.out) (fun _ _ e => e))
            refine step_val18 rfl rfl zv rfl rfl ?_
            refine (Hid.out hK) _ (wkc.alloc (.cells zv 65)) hSn (fun hS2 => ?_)
            clear hK K hS HKc HEc HTc
            have hS := hS2
            clear hS2 hSn
            (try simp only [Act.put]); (try simp only [List.setIfInBounds_toArray, List.set_cons_zero, List.set_cons_succ])
            generalize hza : wkc.heap.size = za at *
            clear hza
            generalize wkc.alloc (.cells zv 65) = wkca at *
            have HKc := HKn
            have HEc := HEn
            have HZc := HZn
            have HTc := HTn
            clear HTn
            clear HKn HEn HZn HBA
            have HC13 := hide HTc.out.tin.size13
            have HCO : Hid (∀ v ∈ cc.toList, v.oneCell' = true) := fun v hv => by
              have h1 := HTc.out.tin.all1
              rw [Array.all_eq_true'] at h1
              exact h1 v (by simpa using hv)
            have HFV : Hid (wkca.ownsRow 0 65 13 (.slice av2 L.length cv2) L.length (vfl L)) := by
              have h := HKc.out.owns HS2.out.fv HNV.out
              rw [HVV.out] at h
              exact h
            refine heldStep 18 rfl (by kernel_rfl) (fun K hK => ?_)
            refine step_append_val8 rfl _ _ rfl 0 (.slice av2 L.length cv2) L.length (vfl L) rfl HFV.out za zv zv_one8 rfl HZc.out.1 (by have := HLN.out; omega) (Nat.zero_le _) (fun v5 w5 ho5 hg5 hq5 => ?_)
            obtain ⟨gi, c5, hv5, cur5, hcur5, hcs5⟩ : ∃ gi c5, v5 = .slice (some ⟨gi, 0, none⟩) (L.length + 1) c5 ∧ ∃ cur5, w5.heap[gi]? = some (.cells cur5 65 (0, 0)) ∧ (L.length + 1) * 13 ≤ cur5.size := by
              rcases ho5.2 with ⟨_, h0⟩ | ⟨gi, c5, cur5, e, _, h1, h2, _, h3, _⟩
              · omega
              · exact ⟨gi, c5, e, cur5, h1, by rw [h3]; exact Nat.mul_le_mul_right 13 h2⟩
            subst hv5
            have hk5 : Kp (fun r => d2.vv.ownBlock = some r) wkca w5 := (Kp.refl _ _).grown hg5 (fun _ _ h => by rw [HVV.out]; exact h)
            have hgi5 : d2.vv.ownBlock = some gi ∨ gi = wkca.heap.size := by
              rcases hq5 with e | e
              · exact .inl (by rw [HVV.out, ← e]; rfl)
              · injection e with e
                exact .inr e
            have HPUT := hide (HS2.out.put HQ2.out HG2.out HU2.out HKc.out HEc.out HMc.out HTc.out HC13.out hk5 ho5 hgi5 hcur5)
            have hS5 : Sst p d.vb d.vt (.slice (some ⟨gu, 0, none⟩) d2.qs.length cu2) d2.qs b (off + L.length * 13) (cx L.length) w5 := hS.kp hk5 HWP.out HWU.out HWB.out
            have HGP : Hid (gi ≠ p) := fun e => by
              rcases hgi5 with h | h
              · exact HWP.out (by rw [← e]; exact h)
              · have h1 := HKc.out.size
                have h2 := blk_lt HS2.out.fp
                omega
            have HGB : Hid (gi ≠ b) := fun e => by
              rcases hgi5 with h | h
              · exact HWB.out (by rw [← e]; exact h)
              · have h1 := HKc.out.size
                have h2 := HBL.out
                omega
            have HGU : Hid (∀ q, (Value.slice (some ⟨gu, 0, none⟩) d2.qs.length cu2).ownBlock = some q → ¬ q = gi) := fun q hq e => by
              rcases hgi5 with h | h
              · exact HWU.out q hq (by rw [e]; exact h)
              · have h1 := HKc.out.size
                have h2 := HUL.out q hq
                omega
            have HI5 : Hid ((Tryz.prog.info? 65).map (·.size) = some cc.size) := by show _ = _; rw [HC13.out]; exact infoV
            have HX5 : Hid (L.length * 13 + cc.size ≤ cur5.size) := by have := HC13.out; show _ ≤ _; omega
            have HCR := hide hcur5
            have HP5 := hide hS5.1
            have HIX : Hid ((((L.length : Nat) : Int) < ((L.length + 1 : Nat) : Int)) ∧ (L.length : Int) < (L.length : Int) + 1) := ⟨by omega, by omega⟩
            refine (Hid.out hK) _ _ hS5 (fun hS6 => ?_)
            clear hK K ho5 hg5 hq5 hk5 hgi5 hcs5 hcur5 hS hS5 HFV HKc HEc HMc HTc HZc
            have hS := hS6
            clear hS6
            (try simp only [Act.put]); (try simp only [List.setIfInBounds_toArray, List.set_cons_zero, List.set_cons_succ])
            refine heldTake 19 (.pointer (some ⟨gi, L.length * 13, none⟩)) rfl (by kernel_rfl) (by kernel_rfl) (by kernel_rfl) (fun _ _ _ h => h) rfl hS (fun wy hy => by have h0 := HIX.out.1; have h1 := HIX.out.2; first | (go_simp; done) | (go_simp; omega) | (go_simp; rfl)) ?_
            (try simp only [Act.put]); (try simp only [List.setIfInBounds_toArray, List.set_cons_zero, List.set_cons_succ])
            refine heldTake 21 _ rfl (by kernel_rfl) (by kernel_rfl) (by kernel_rfl) (fun _ _ _ h => h) rfl hS (fun wy hy => by first | (go_simp; done) | (go_simp; rfl) | rfl) ?_
            (try simp only [Act.put]); (try simp only [List.setIfInBounds_toArray, List.set_cons_zero, List.set_cons_succ])
            refine heldTake 22 _ rfl (by kernel_rfl) (by kernel_rfl) (by kernel_rfl) (fun _ _ _ h => h) rfl hS (fun wy hy => by first | (go_simp; done) | (go_simp; rfl) | rfl) ?_
            (try simp only [Act.put]); (try simp only [List.setIfInBounds_toArray, List.set_cons_zero, List.set_cons_succ])
            have hS4 : Sst p d.vb d.vt (.slice (some ⟨gu, 0, none⟩) d2.qs.length cu2) d2.qs b (off + L.length * 13) (cx L.length) (w5.setRow gi (splice cur5.toList (L.length * 13) cc.toList).toArray) := hS.kp (row_kp w5 gi _) (fun e => HGP.out e.symm) HGU.out (fun e => HGB.out e.symm)
            obtain ⟨v4a, hv4a⟩ := HP5.out
            obtain ⟨v4b, hv4b⟩ := hS4.1
            have c4a : w5.cell? ⟨p, 4, none⟩ = some v4a := blk_cell (j := 4) hv4a rfl
            have f4a : w5.frozen? ⟨p, 4, none⟩ = false := blk_frozen 4 hv4a
            have c4b : (w5.setRow gi (splice cur5.toList (L.length * 13) cc.toList).toArray).cell? ⟨p, 4, none⟩ = some v4b := blk_cell (j := 4) hv4b rfl
            have f4b : (w5.setRow gi (splice cur5.toList (L.length * 13) cc.toList).toArray).frozen? ⟨p, 4, none⟩ = false := blk_frozen 4 hv4b
            have HS4s : Hid (Sst p d.vb d.vt (.slice (some ⟨gu, 0, none⟩) d2.qs.length cu2) d2.qs b (off + L.length * 13) (cx L.length) ((w5.setRow gi (splice cur5.toList (L.length * 13) cc.toList).toArray).setCell ⟨p, 4, none⟩ (.slice (some ⟨gi, 0, none⟩) (L.length + 1) c5))) := hS4.set _ HBP.out HUP.out
            have HS5s : Hid (Sst p d.vb d.vt (.slice (some ⟨gu, 0, none⟩) d2.qs.length cu2) d2.qs b (off + L.length * 13) (cx L.length) (w5.setCell ⟨p, 4, none⟩ (.slice (some ⟨gi, 0, none⟩) (L.length + 1) c5))) := hS.set _ HBP.out HUP.out
            have HEQ := hide (row_cell_comm w5 p gi 4 (.slice (some ⟨gi, 0, none⟩) (L.length + 1) c5) (splice cur5.toList (L.length * 13) cc.toList).toArray HGP.out)
            have HCR7 : Hid ((w5.setCell ⟨p, 4, none⟩ (.slice (some ⟨gi, 0, none⟩) (L.length + 1) c5)).heap[gi]? = some (.cells cur5 65 (0, 0))) := blk_other _ _ HCR.out HGP.out
            clear hv4a hv4b
            refine wpAnyH_ready (rs := [20, 23]) (by kernel_rfl) (by simp) ?_
            refine AllReadyH.cons rfl (fun K hK => ?_) (AllReadyH.cons rfl (fun K hK => ?_) AllReadyH.nil)
            · as_aux_lemma =>
              refine step_storePart8 rfl rfl gi (L.length * 13) cur5 cc 65 rfl rfl HCR.out HI5.out HX5.out HCO.out ?_
              refine (Shut.out hK) _ _ hS4 (fun hS6 => ?_)
              clear hK K hS hS4 c4a f4a
              (try simp only [Act.put])
              generalize w5.setRow gi (splice cur5.toList (L.length * 13) cc.toList).toArray = w6 at *
              refine heldStep 23 rfl (by kernel_rfl) (fun K hK => ?_)
              go_simp
              refine (Hid.out hK) _ _ HS4s.out (fun hS7 => ?_)
              clear hK K hS6 c4b f4b
              (try simp only [Act.put])
              refine heldDone (by kernel_rfl) ?_
              clear hS7
              have HFIN : Hid (∃ d' L', L'.length = L.length + 1 ∧ Svs w (w6.setCell ⟨p, 4, none⟩ (.slice (some ⟨gi, 0, none⟩) (L.length + 1) c5)) p d d' ts L') := ⟨_, L ++ [cc], by rw [List.length_append, List.length_singleton], HPUT.out⟩
              clear HPUT
              go_wp2_with fail
              go_roundw
              case rel => exact ⟨L.length + 1, by have := HLT.out; omega, by go_num, HFIN⟩
              case measure => have := HLT.out; simp [intOf]; omega
            · as_aux_lemma =>
              go_simp
              refine (Shut.out hK) _ _ HS5s.out (fun hS6 => ?_)
              clear hK K hS hS4 c4a f4a c4b f4b
              (try simp only [Act.put])
              refine heldStep 20 rfl (by kernel_rfl) (fun K hK => ?_)
              refine step_storePart8 rfl rfl gi (L.length * 13) cur5 cc 65 rfl rfl HCR7.out HI5.out HX5.out HCO.out ?_
              refine (Hid.out hK) _ _ (by rw [HEQ.out]; exact HS4s.out) (fun hS7 => ?_)
              clear hK K hS6
              (try simp only [Act.put])
              refine heldDone (by kernel_rfl) ?_
              clear hS7
              have HFIN : Hid (∃ d' L', L'.length = L.length + 1 ∧ Svs w ((w5.setCell ⟨p, 4, none⟩ (.slice (some ⟨gi, 0, none⟩) (L.length + 1) c5)).setRow gi (splice cur5.toList (L.length * 13) cc.toList).toArray) p d d' ts L') := ⟨_, L ++ [cc], by rw [List.length_append, List.length_singleton], by rw [HEQ.out]; exact HPUT.out⟩
              clear HPUT
              go_wp2_with fail
              go_roundw
              case rel => exact ⟨L.length + 1, by have := HLT.out; omega, by go_num, HFIN⟩
              case measure => have := HLT.out; simp [intOf]; omega
          · as_aux_lemma =>
            have HZn : Hid ((wk.alloc (.cells zv 65)).heap[wk.heap.size]? = some (.cells zv 65 (0, 0)) ∧ wd.heap.size ≤ wk.heap.size) := ⟨heap_alloc_new wk _, HKc.out.size⟩
            have HBA := hide (below_alloc4 wk (.cells zv 65))
            have hSn : Sst p d.vb d.vt (.slice (some ⟨gu, 0, none⟩) d2.qs.length cu2) d2.qs b (off + L.length * 13) (cx L.length) (wk.alloc (.cells zv 65)) := hS.kp (Kp.of_below (S := fun _ => False) HBA.out) (fun e => e) (fun _ _ e => e) (fun e => e)
            have HKn := hide (HKc.out.trans (Kp.of_below (S := d2.Ms L.length) HBA.out) (fun _ _ e => e))
            have HEn := hide (HEc.out.next HBA.out)
            refine step_val18 rfl rfl zv rfl rfl ?_
            refine (Shut.out hK) _ (wk.alloc (.cells zv 65)) hSn (fun hS2 => ?_)
            clear hK K hS HKc HEc 
            have hS := hS2
            clear hS2 hSn
            (try simp only [Act.put]); (try simp only [List.setIfInBounds_toArray])
            generalize hza : wk.heap.size = za at *
            clear hza
            generalize wk.alloc (.cells zv 65) = wka at *
            have HKc := HKn
            have HEc := HEn
            have HZc := HZn
            clear HKn HEn HZn HBA
            refine heldStep 15 rfl (by kernel_rfl) (fun K hK => ?_)
            have hcl := HIH.out u HUM.out wka g (d2.Ms L.length) (cx L.length) HEc.out (HTI.out wka HKc.out) HMQ.out
            go_simp
            refine hcl.mono ?_
            rintro e wkac ⟨cc, M2, rfl, hse, hsm, hsk, hst⟩
            have HKn := hide (HKc.out.trans hsk (fun _ _ e => e))
            have hSn : Sst p d.vb d.vt (.slice (some ⟨gu, 0, none⟩) d2.qs.length cu2) d2.qs b (off + L.length * 13) (cx L.length) wkac := hS.kp hsk HNP.out HNU.out HNB.out
            have HEn := hide hse
            have HMn : Hid (∀ x, M2 x → d2.Ms L.length x ∨ wd.heap.size ≤ x) := fun x hx => (hsm x hx).imp id (fun e => Nat.le_trans HKc.out.size e)
            have HTn := hide hst
            have HZn : Hid (wkac.heap[za]? = some (.cells zv 65 (0, 0)) ∧ wd.heap.size ≤ za) := ⟨(hsk.block _ (blk_lt HZc.out.1) (fun e => by have h1 := HS2.out.lt HQ2.out e; have h2 := HZc.out.2; omega)).trans HZc.out.1, HZc.out.2⟩
            refine (Hid.out hK) _ _ hSn (fun hS2 => ?_)
            clear hK K hS HKc HEc hcl hse hsm hsk hst HZc
            have hS := hS2
            clear hS2 hSn
            (try simp only [Act.put]); (try simp only [List.setIfInBounds_toArray, List.set_cons_zero, List.set_cons_succ])
            have HKc := HKn
            have HEc := HEn
            have HMc := HMn
            have HTc := HTn
            have HZc := HZn
            clear HZn
            clear HKn HEn HMn HTn
            have HC13 := hide HTc.out.tin.size13
            have HCO : Hid (∀ v ∈ cc.toList, v.oneCell' = true) := fun v hv => by
              have h1 := HTc.out.tin.all1
              rw [Array.all_eq_true'] at h1
              exact h1 v (by simpa using hv)
            have HFV : Hid (wkac.ownsRow 0 65 13 (.slice av2 L.length cv2) L.length (vfl L)) := by
              have h := HKc.out.owns HS2.out.fv HNV.out
              rw [HVV.out] at h
              exact h
            refine heldStep 18 rfl (by kernel_rfl) (fun K hK => ?_)
            refine step_append_val8 rfl _ _ rfl 0 (.slice av2 L.length cv2) L.length (vfl L) rfl HFV.out za zv zv_one8 rfl HZc.out.1 (by have := HLN.out; omega) (Nat.zero_le _) (fun v5 w5 ho5 hg5 hq5 => ?_)
            obtain ⟨gi, c5, hv5, cur5, hcur5, hcs5⟩ : ∃ gi c5, v5 = .slice (some ⟨gi, 0, none⟩) (L.length + 1) c5 ∧ ∃ cur5, w5.heap[gi]? = some (.cells cur5 65 (0, 0)) ∧ (L.length + 1) * 13 ≤ cur5.size := by
              rcases ho5.2 with ⟨_, h0⟩ | ⟨gi, c5, cur5, e, _, h1, h2, _, h3, _⟩
              · omega
              · exact ⟨gi, c5, e, cur5, h1, by rw [h3]; exact Nat.mul_le_mul_right 13 h2⟩
            subst hv5
            have hk5 : Kp (fun r => d2.vv.ownBlock = some r) wkac w5 := (Kp.refl _ _).grown hg5 (fun _ _ h => by rw [HVV.out]; exact h)
            have hgi5 : d2.vv.ownBlock = some gi ∨ gi = wkac.heap.size := by
              rcases hq5 with e | e
              · exact .inl (by rw [HVV.out, ← e]; rfl)
              · injection e with e
                exact .inr e
            have HPUT := hide (HS2.out.put HQ2.out HG2.out HU2.out HKc.out HEc.out HMc.out HTc.out HC13.out hk5 ho5 hgi5 hcur5)
            have hS5 : Sst p d.vb d.vt (.slice (some ⟨gu, 0, none⟩) d2.qs.length cu2) d2.qs b (off + L.length * 13) (cx L.length) w5 := hS.kp hk5 HWP.out HWU.out HWB.out
            have HGP : Hid (gi ≠ p) := fun e => by
              rcases hgi5 with h | h
              · exact HWP.out (by rw [← e]; exact h)
              · have h1 := HKc.out.size
                have h2 := blk_lt HS2.out.fp
                omega
            have HGB : Hid (gi ≠ b) := fun e => by
              rcases hgi5 with h | h
              · exact HWB.out (by rw [← e]; exact h)
              · have h1 := HKc.out.size
                have h2 := HBL.out
                omega
            have HGU : Hid (∀ q, (Value.slice (some ⟨gu, 0, none⟩) d2.qs.length cu2).ownBlock = some q → ¬ q = gi) := fun q hq e => by
              rcases hgi5 with h | h
              · exact HWU.out q hq (by rw [e]; exact h)
              · have h1 := HKc.out.size
                have h2 := HUL.out q hq
                omega
            have HI5 : Hid ((Tryz.prog.info? 65).map (·.size) = some cc.size) := by show _ = _; rw [HC13.out]; exact infoV
            have HX5 : Hid (L.length * 13 + cc.size ≤ cur5.size) := by have := HC13.out; show _ ≤ _; omega
            have HCR := hide hcur5
            have HP5 := hide hS5.1
            have HIX : Hid ((((L.length : Nat) : Int) < ((L.length + 1 : Nat) : Int)) ∧ (L.length : Int) < (L.length : Int) + 1) := ⟨by omega, by omega⟩
            refine (Hid.out hK) _ _ hS5 (fun hS6 => ?_)
            clear hK K ho5 hg5 hq5 hk5 hgi5 hcs5 hcur5 hS hS5 HFV HKc HEc HMc HTc HZc
            have hS := hS6
            clear hS6
            (try simp only [Act.put]); (try simp only [List.setIfInBounds_toArray, List.set_cons_zero, List.set_cons_succ])
            refine heldTake 19 (.pointer (some ⟨gi, L.length * 13, none⟩)) rfl (by kernel_rfl) (by kernel_rfl) (by kernel_rfl) (fun _ _ _ h => h) rfl hS (fun wy hy => by have h0 := HIX.out.1; have h1 := HIX.out.2; first | (go_simp; done) | (go_simp; omega) | (go_simp; rfl)) ?_
            (try simp only [Act.put]); (try simp only [List.setIfInBounds_toArray, List.set_cons_zero, List.set_cons_succ])
            refine heldTake 21 _ rfl (by kernel_rfl) (by kernel_rfl) (by kernel_rfl) (fun _ _ _ h => h) rfl hS (fun wy hy => by first | (go_simp; done) | (go_simp; rfl) | rfl) ?_
            (try simp only [Act.put]); (try simp only [List.setIfInBounds_toArray, List.set_cons_zero, List.set_cons_succ])
            refine heldTake 22 _ rfl (by kernel_rfl) (by kernel_rfl) (by kernel_rfl) (fun _ _ _ h => h) rfl hS (fun wy hy => by first | (go_simp; done) | (go_simp; rfl) | rfl) ?_
            (try simp only [Act.put]); (try simp only [List.setIfInBounds_toArray, List.set_cons_zero, List.set_cons_succ])
            have hS4 : Sst p d.vb d.vt (.slice (some ⟨gu, 0, none⟩) d2.qs.length cu2) d2.qs b (off + L.length * 13) (cx L.length) (w5.setRow gi (splice cur5.toList (L.length * 13) cc.toList).toArray) := hS.kp (row_kp w5 gi _) (fun e => HGP.out e.symm) HGU.out (fun e => HGB.out e.symm)
            obtain ⟨v4a, hv4a⟩ := HP5.out
            obtain ⟨v4b, hv4b⟩ := hS4.1
            have c4a : w5.cell? ⟨p, 4, none⟩ = some v4a := blk_cell (j := 4) hv4a rfl
            have f4a : w5.frozen? ⟨p, 4, none⟩ = false := blk_frozen 4 hv4a
            have c4b : (w5.setRow gi (splice cur5.toList (L.length * 13) cc.toList).toArray).cell? ⟨p, 4, none⟩ = some v4b := blk_cell (j := 4) hv4b rfl
            have f4b : (w5.setRow gi (splice cur5.toList (L.length * 13) cc.toList).toArray).frozen? ⟨p, 4, none⟩ = false := blk_frozen 4 hv4b
            have HS4s : Hid (Sst p d.vb d.vt (.slice (some ⟨gu, 0, none⟩) d2.qs.length cu2) d2.qs b (off + L.length * 13) (cx L.length) ((w5.setRow gi (splice cur5.toList (L.length * 13) cc.toList).toArray).setCell ⟨p, 4, none⟩ (.slice (some ⟨gi, 0, none⟩) (L.length + 1) c5))) := hS4.set _ HBP.out HUP.out
            have HS5s : Hid (Sst p d.vb d.vt (.slice (some ⟨gu, 0, none⟩) d2.qs.length cu2) d2.qs b (off + L.length * 13) (cx L.length) (w5.setCell ⟨p, 4, none⟩ (.slice (some ⟨gi, 0, none⟩) (L.length + 1) c5))) := hS.set _ HBP.out HUP.out
            have HEQ := hide (row_cell_comm w5 p gi 4 (.slice (some ⟨gi, 0, none⟩) (L.length + 1) c5) (splice cur5.toList (L.length * 13) cc.toList).toArray HGP.out)
            have HCR7 : Hid ((w5.setCell ⟨p, 4, none⟩ (.slice (some ⟨gi, 0, none⟩) (L.length + 1) c5)).heap[gi]? = some (.cells cur5 65 (0, 0))) := blk_other _ _ HCR.out HGP.out
            clear hv4a hv4b
            refine wpAnyH_ready (rs := [20, 23]) (by kernel_rfl) (by simp) ?_
            refine AllReadyH.cons rfl (fun K hK => ?_) (AllReadyH.cons rfl (fun K hK => ?_) AllReadyH.nil)
            · as_aux_lemma =>
              refine step_storePart8 rfl rfl gi (L.length * 13) cur5 cc 65 rfl rfl HCR.out HI5.out HX5.out HCO.out ?_
              refine (Shut.out hK) _ _ hS4 (fun hS6 => ?_)
              clear hK K hS hS4 c4a f4a
              (try simp only [Act.put])
              generalize w5.setRow gi (splice cur5.toList (L.length * 13) cc.toList).toArray = w6 at *
              refine heldStep 23 rfl (by kernel_rfl) (fun K hK => ?_)
              go_simp
              refine (Hid.out hK) _ _ HS4s.out (fun hS7 => ?_)
              clear hK K hS6 c4b f4b
              (try simp only [Act.put])
              refine heldDone (by kernel_rfl) ?_
              clear hS7
              have HFIN : Hid (∃ d' L', L'.length = L.length + 1 ∧ Svs w (w6.setCell ⟨p, 4, none⟩ (.slice (some ⟨gi, 0, none⟩) (L.length + 1) c5)) p d d' ts L') := ⟨_, L ++ [cc], by rw [List.length_append, List.length_singleton], HPUT.out⟩
              clear HPUT
              go_wp2_with fail
              go_roundw
              case rel => exact ⟨L.length + 1, by have := HLT.out; omega, by go_num, HFIN⟩
              case measure => have := HLT.out; simp [intOf]; omega
            · as_aux_lemma =>
              go_simp
              refine (Shut.out hK) _ _ HS5s.out (fun hS6 => ?_)
              clear hK K hS hS4 c4a f4a c4b f4b
              (try simp only [Act.put])
              refine heldStep 20 rfl (by kernel_rfl) (fun K hK => ?_)
              refine step_storePart8 rfl rfl gi (L.length * 13) cur5 cc 65 rfl rfl HCR7.out HI5.out HX5.out HCO.out ?_
              refine (Hid.out hK) _ _ (by rw [HEQ.out]; exact HS4s.out) (fun hS7 => ?_)
              clear hK K hS6
              (try simp only [Act.put])
              refine heldDone (by kernel_rfl) ?_
              clear hS7
              have HFIN : Hid (∃ d' L', L'.length = L.length + 1 ∧ Svs w ((w5.setCell ⟨p, 4, none⟩ (.slice (some ⟨gi, 0, none⟩) (L.length + 1) c5)).setRow gi (splice cur5.toList (L.length * 13) cc.toList).toArray) p d d' ts L') := ⟨_, L ++ [cc], by rw [List.length_append, List.length_singleton], by rw [HEQ.out]; exact HPUT.out⟩
              clear HPUT
              go_wp2_with fail
              go_roundw
              case rel => exact ⟨L.length + 1, by have := HLT.out; omega, by go_num, HFIN⟩
              case measure => have := HLT.out; simp [intOf]; omega
        · as_aux_lemma =>
          have hcl := HIH.out u HUM.out wk g (d2.Ms L.length) (cx L.length) HEc.out (HTI.out wk HKc.out) HMQ.out
          go_simp
          refine hcl.mono ?_
          rintro e wkc ⟨cc, M2, rfl, hse, hsm, hsk, hst⟩
          have HKn := hide (HKc.out.trans hsk (fun _ _ e => e))
          have hSn : Sst p d.vb d.vt (.slice (some ⟨gu, 0, none⟩) d2.qs.length cu2) d2.qs b (off + L.length * 13) (cx L.length) wkc := hS.kp hsk HNP.out HNU.out HNB.out
          have HEn := hide hse
          have HMn : Hid (∀ x, M2 x → d2.Ms L.length x ∨ wd.heap.size ≤ x) := fun x hx => (hsm x hx).imp id (fun e => Nat.le_trans HKc.out.size e)
          have HTn := hide hst
          refine (Shut.out hK) _ _ hSn (fun hS2 => ?_)
          clear hK K hS HKc HEc hcl hse hsm hsk hst 
          have hS := hS2
          clear hS2 hSn
          (try simp only [Act.put]); (try simp only [List.setIfInBounds_toArray, List.set_cons_zero, List.set_cons_succ])
          have HKc := HKn
          have HEc := HEn
          have HMc := HMn
          have HTc := HTn
          clear HKn HEn HMn HTn
          refine wpAnyH_ready (rs := [3, 17]) (by kernel_rfl) (by simp) ?_
          refine AllReadyH.cons rfl (fun K hK => ?_) (AllReadyH.cons rfl (fun K hK => ?_) AllReadyH.nil)
          · as_aux_lemma =>
            have x4 : wkc.cell? ⟨p, 4, none⟩ = some (.slice av2 L.length cv2) := HP4.out wkc HKc.out
            go_simp
            refine (Shut.out hK) _ _ hS (fun hS2 => ?_)
            clear hK K hS2 x4
            (try simp only [Act.put]); (try simp only [List.setIfInBounds_toArray, List.set_cons_zero, List.set_cons_succ])
            refine heldTake 16 _ rfl (by kernel_rfl) (by kernel_rfl) (by kernel_rfl) (fun _ _ _ h => h) rfl hS (fun wy hy => by first | (go_simp; done) | (go_simp; rfl) | rfl) ?_
            (try simp only [Act.put]); (try simp only [List.setIfInBounds_toArray, List.set_cons_zero, List.set_cons_succ])
            refine heldStep 17 rfl (by kernel_rfl) (fun K hK => ?_)
            have HZn : Hid ((wkc.alloc (.cells zv 65)).heap[wkc.heap.size]? = some (.cells zv 65 (0, 0)) ∧ wd.heap.size ≤ wkc.heap.size) := ⟨heap_alloc_new wkc _, HKc.out.size⟩
            have HBA := hide (below_alloc4 wkc (.cells zv 65))
            have hSn : Sst p d.vb d.vt (.slice (some ⟨gu, 0, none⟩) d2.qs.length cu2) d2.qs b (off + L.length * 13) (cx L.length) (wkc.alloc (.cells zv 65)) := hS.kp (Kp.of_below (S := fun _ => False) HBA.out) (fun e => e) (fun _ _ e => e) (fun e => e)
            have HKn := hide (HKc.out.trans (Kp.of_below (S := d2.Ms L.length) HBA.out) (fun _ _ e => e))
            have HEn := hide (HEc.out.next HBA.out)
            have HTn := hide (HTc.out.kp (Kp.of_below (S := fun _ => False) HBA.out) (fun _ _ e => e))
            refine step_val18 rfl rfl zv rfl rfl ?_
            refine (Hid.out hK) _ (wkc.alloc (.cells zv 65)) hSn (fun hS2 => ?_)
            clear hK K hS HKc HEc HTc
            have hS := hS2
            clear hS2 hSn
            (try simp only [Act.put]); (try simp only [List.setIfInBounds_toArray, List.set_cons_zero, List.set_cons_succ])
            generalize hza : wkc.heap.size = za at *
            clear hza
            generalize wkc.alloc (.cells zv 65) = wkca at *
            have HKc := HKn
            have HEc := HEn
            have HZc := HZn
            have HTc := HTn
            clear HTn
            clear HKn HEn HZn HBA
            have HC13 := hide HTc.out.tin.size13
            have HCO : Hid (∀ v ∈ cc.toList, v.oneCell' = true) := fun v hv => by
              have h1 := HTc.out.tin.all1
              rw [Array.all_eq_true'] at h1
              exact h1 v (by simpa using hv)
            have HFV : Hid (wkca.ownsRow 0 65 13 (.slice av2 L.length cv2) L.length (vfl L)) := by
              have h := HKc.out.owns HS2.out.fv HNV.out
              rw [HVV.out] at h
              exact h
            refine heldStep 18 rfl (by kernel_rfl) (fun K hK => ?_)
            refine step_append_val8 rfl _ _ rfl 0 (.slice av2 L.length cv2) L.length (vfl L) rfl HFV.out za zv zv_one8 rfl HZc.out.1 (by have := HLN.out; omega) (Nat.zero_le _) (fun v5 w5 ho5 hg5 hq5 => ?_)
            obtain ⟨gi, c5, hv5, cur5, hcur5, hcs5⟩ : ∃ gi c5, v5 = .slice (some ⟨gi, 0, none⟩) (L.length + 1) c5 ∧ ∃ cur5, w5.heap[gi]? = some (.cells cur5 65 (0, 0)) ∧ (L.length + 1) * 13 ≤ cur5.size := by
              rcases ho5.2 with ⟨_, h0⟩ | ⟨gi, c5, cur5, e, _, h1, h2, _, h3, _⟩
              · omega
              · exact ⟨gi, c5, e, cur5, h1, by rw [h3]; exact Nat.mul_le_mul_right 13 h2⟩
            subst hv5
            have hk5 : Kp (fun r => d2.vv.ownBlock = some r) wkca w5 := (Kp.refl _ _).grown hg5 (fun _ _ h => by rw [HVV.out]; exact h)
            have hgi5 : d2.vv.ownBlock = some gi ∨ gi = wkca.heap.size := by
              rcases hq5 with e | e
              · exact .inl (by rw [HVV.out, ← e]; rfl)
              · injection e with e
                exact .inr e
            have HPUT := hide (HS2.out.put HQ2.out HG2.out HU2.out HKc.out HEc.out HMc.out HTc.out HC13.out hk5 ho5 hgi5 hcur5)
            have hS5 : Sst p d.vb d.vt (.slice (some ⟨gu, 0, none⟩) d2.qs.length cu2) d2.qs b (off + L.length * 13) (cx L.length) w5 := hS.kp hk5 HWP.out HWU.out HWB.out
            have HGP : Hid (gi ≠ p) := fun e => by
              rcases hgi5 with h | h
              · exact HWP.out (by rw [← e]; exact h)
              · have h1 := HKc.out.size
                have h2 := blk_lt HS2.out.fp
                omega
            have HGB : Hid (gi ≠ b) := fun e => by
              rcases hgi5 with h | h
              · exact HWB.out (by rw [← e]; exact h)
              · have h1 := HKc.out.size
                have h2 := HBL.out
                omega
            have HGU : Hid (∀ q, (Value.slice (some ⟨gu, 0, none⟩) d2.qs.length cu2).ownBlock = some q → ¬ q = gi) := fun q hq e => by
              rcases hgi5 with h | h
              · exact HWU.out q hq (by rw [e]; exact h)
              · have h1 := HKc.out.size
                have h2 := HUL.out q hq
                omega
            have HI5 : Hid ((Tryz.prog.info? 65).map (·.size) = some cc.size) := by show _ = _; rw [HC13.out]; exact infoV
            have HX5 : Hid (L.length * 13 + cc.size ≤ cur5.size) := by have := HC13.out; show _ ≤ _; omega
            have HCR := hide hcur5
            have HP5 := hide hS5.1
            have HIX : Hid ((((L.length : Nat) : Int) < ((L.length + 1 : Nat) : Int)) ∧ (L.length : Int) < (L.length : Int) + 1) := ⟨by omega, by omega⟩
            refine (Hid.out hK) _ _ hS5 (fun hS6 => ?_)
            clear hK K ho5 hg5 hq5 hk5 hgi5 hcs5 hcur5 hS hS5 HFV HKc HEc HMc HTc HZc
            have hS := hS6
            clear hS6
            (try simp only [Act.put]); (try simp only [List.setIfInBounds_toArray, List.set_cons_zero, List.set_cons_succ])
            refine heldTake 19 (.pointer (some ⟨gi, L.length * 13, none⟩)) rfl (by kernel_rfl) (by kernel_rfl) (by kernel_rfl) (fun _ _ _ h => h) rfl hS (fun wy hy => by have h0 := HIX.out.1; have h1 := HIX.out.2; first | (go_simp; done) | (go_simp; omega) | (go_simp; rfl)) ?_
            (try simp only [Act.put]); (try simp only [List.setIfInBounds_toArray, List.set_cons_zero, List.set_cons_succ])
            refine heldTake 21 _ rfl (by kernel_rfl) (by kernel_rfl) (by kernel_rfl) (fun _ _ _ h => h) rfl hS (fun wy hy => by first | (go_simp; done) | (go_simp; rfl) | rfl) ?_
            (try simp only [Act.put]); (try simp only [List.setIfInBounds_toArray, List.set_cons_zero, List.set_cons_succ])
            refine heldTake 22 _ rfl (by kernel_rfl) (by kernel_rfl) (by kernel_rfl) (fun _ _ _ h => h) rfl hS (fun wy hy => by first | (go_simp; done) | (go_simp; rfl) | rfl) ?_
            (try simp only [Act.put]); (try simp only [List.setIfInBounds_toArray, List.set_cons_zero, List.set_cons_succ])
            have hS4 : Sst p d.vb d.vt (.slice (some ⟨gu, 0, none⟩) d2.qs.length cu2) d2.qs b (off + L.length * 13) (cx L.length) (w5.setRow gi (splice cur5.toList (L.length * 13) cc.toList).toArray) := hS.kp (row_kp w5 gi _) (fun e => HGP.out e.symm) HGU.out (fun e => HGB.out e.symm)
            obtain ⟨v4a, hv4a⟩ := HP5.out
            obtain ⟨v4b, hv4b⟩ := hS4.1
            have c4a : w5.cell? ⟨p, 4, none⟩ = some v4a := blk_cell (j := 4) hv4a rfl
            have f4a : w5.frozen? ⟨p, 4, none⟩ = false := blk_frozen 4 hv4a
            have c4b : (w5.setRow gi (splice cur5.toList (L.length * 13) cc.toList).toArray).cell? ⟨p, 4, none⟩ = some v4b := blk_cell (j := 4) hv4b rfl
            have f4b : (w5.setRow gi (splice cur5.toList (L.length * 13) cc.toList).toArray).frozen? ⟨p, 4, none⟩ = false := blk_frozen 4 hv4b
            have HS4s : Hid (Sst p d.vb d.vt (.slice (some ⟨gu, 0, none⟩) d2.qs.length cu2) d2.qs b (off + L.length * 13) (cx L.length) ((w5.setRow gi (splice cur5.toList (L.length * 13) cc.toList).toArray).setCell ⟨p, 4, none⟩ (.slice (some ⟨gi, 0, none⟩) (L.length + 1) c5))) := hS4.set _ HBP.out HUP.out
            have HS5s : Hid (Sst p d.vb d.vt (.slice (some ⟨gu, 0, none⟩) d2.qs.length cu2) d2.qs b (off + L.length * 13) (cx L.length) (w5.setCell ⟨p, 4, none⟩ (.slice (some ⟨gi, 0, none⟩) (L.length + 1) c5))) := hS.set _ HBP.out HUP.out
            have HEQ := hide (row_cell_comm w5 p gi 4 (.slice (some ⟨gi, 0, none⟩) (L.length + 1) c5) (splice cur5.toList (L.length * 13) cc.toList).toArray HGP.out)
            have HCR7 : Hid ((w5.setCell ⟨p, 4, none⟩ (.slice (some ⟨gi, 0, none⟩) (L.length + 1) c5)).heap[gi]? = some (.cells cur5 65 (0, 0))) := blk_other _ _ HCR.out HGP.out
            clear hv4a hv4b
            refine wpAnyH_ready (rs := [20, 23]) (by kernel_rfl) (by simp) ?_
            refine AllReadyH.cons rfl (fun K hK => ?_) (AllReadyH.cons rfl (fun K hK => ?_) AllReadyH.nil)
            · as_aux_lemma =>
              refine step_storePart8 rfl rfl gi (L.length * 13) cur5 cc 65 rfl rfl HCR.out HI5.out HX5.out HCO.out ?_
              refine (Shut.out hK) _ _ hS4 (fun hS6 => ?_)
              clear hK K hS hS4 c4a f4a
              (try simp only [Act.put])
              generalize w5.setRow gi (splice cur5.toList (L.length * 13) cc.toList).toArray = w6 at *
              refine heldStep 23 rfl (by kernel_rfl) (fun K hK => ?_)
              go_simp
              refine (Hid.out hK) _ _ HS4s.out (fun hS7 => ?_)
              clear hK K hS6 c4b f4b
              (try simp only [Act.put])
              refine heldDone (by kernel_rfl) ?_
              clear hS7
              have HFIN : Hid (∃ d' L', L'.length = L.length + 1 ∧ Svs w (w6.setCell ⟨p, 4, none⟩ (.slice (some ⟨gi, 0, none⟩) (L.length + 1) c5)) p d d' ts L') := ⟨_, L ++ [cc], by rw [List.length_append, List.length_singleton], HPUT.out⟩
              clear HPUT
              go_wp2_with fail
              go_roundw
              case rel => exact ⟨L.length + 1, by have := HLT.out; omega, by go_num, HFIN⟩
              case measure => have := HLT.out; simp [intOf]; omega
            · as_aux_lemma =>
              go_simp
              refine (Shut.out hK) _ _ HS5s.out (fun hS6 => ?_)
              clear hK K hS hS4 c4a f4a c4b f4b
              (try simp only [Act.put])
              refine heldStep 20 rfl (by kernel_rfl) (fun K hK => ?_)
              refine step_storePart8 rfl rfl gi (L.length * 13) cur5 cc 65 rfl rfl HCR7.out HI5.out HX5.out HCO.out ?_
              refine (Hid.out hK) _ _ (by rw [HEQ.out]; exact HS4s.out) (fun hS7 => ?_)
              clear hK K hS6
              (try simp only [Act.put])
              refine heldDone (by kernel_rfl) ?_
              clear hS7
              have HFIN : Hid (∃ d' L', L'.length = L.length + 1 ∧ Svs w ((w5.setCell ⟨p, 4, none⟩ (.slice (some ⟨gi, 0, none⟩) (L.length + 1) c5)).setRow gi (splice cur5.toList (L.length * 13) cc.toList).toArray) p d d' ts L') := ⟨_, L ++ [cc], by rw [List.length_append, List.length_singleton], by rw [HEQ.out]; exact HPUT.out⟩
              clear HPUT
              go_wp2_with fail
              go_roundw
              case rel => exact ⟨L.length + 1, by have := HLT.out; omega, by go_num, HFIN⟩
              case measure => have := HLT.out; simp [intOf]; omega
          · as_aux_lemma =>
            have HZn : Hid ((wkc.alloc (.cells zv 65)).heap[wkc.heap.size]? = some (.cells zv 65 (0, 0)) ∧ wd.heap.size ≤ wkc.heap.size) := ⟨heap_alloc_new wkc _, HKc.out.size⟩
            have HBA := hide (below_alloc4 wkc (.cells zv 65))
            have hSn : Sst p d.vb d.vt (.slice (some ⟨gu, 0, none⟩) d2.qs.length cu2) d2.qs b (off + L.length * 13) (cx L.length) (wkc.alloc (.cells zv 65)) := hS.kp (Kp.of_below (S := fun _ => False) HBA.out) (fun e => e) (fun _ _ e => e) (fun e => e)
            have HKn := hide (HKc.out.trans (Kp.of_below (S := d2.Ms L.length) HBA.out) (fun _ _ e => e))
            have HEn := hide (HEc.out.next HBA.out)
            have HTn := hide (HTc.out.kp (Kp.of_below (S := fun _ => False) HBA.out) (fun _ _ e => e))
            refine step_val18 rfl rfl zv rfl rfl ?_
            refine (Shut.out hK) _ (wkc.alloc (.cells zv 65)) hSn (fun hS2 => ?_)
            clear hK K hS HKc HEc HTc
            have hS := hS2
            clear hS2 hSn
            (try simp only [Act.put]); (try simp only [List.setIfInBounds_toArray])
            generalize hza : wkc.heap.size = za at *
            clear hza
            generalize wkc.alloc (.cells zv 65) = wkca at *
            have HKc := HKn
            have HEc := HEn
            have HZc := HZn
            have HTc := HTn
            clear HTn
            clear HKn HEn HZn HBA
            refine heldStep 3 rfl (by kernel_rfl) (fun K hK => ?_)
            have x4 : wkca.cell? ⟨p, 4, none⟩ = some (.slice av2 L.length cv2) := HP4.out wkca HKc.out
            go_simp
            refine (Hid.out hK) _ _ hS (fun hS2 => ?_)
            clear hK K hS2 x4
            (try simp only [Act.put]); (try simp only [List.setIfInBounds_toArray, List.set_cons_zero, List.set_cons_succ])
            refine heldTake 16 _ rfl (by kernel_rfl) (by kernel_rfl) (by kernel_rfl) (fun _ _ _ h => h) rfl hS (fun wy hy => by first | (go_simp; done) | (go_simp; rfl) | rfl) ?_
            (try simp only [Act.put]); (try simp only [List.setIfInBounds_toArray, List.set_cons_zero, List.set_cons_succ])
            have HC13 := hide HTc.out.tin.size13
            have HCO : Hid (∀ v ∈ cc.toList, v.oneCell' = true) := fun v hv => by
              have h1 := HTc.out.tin.all1
              rw [Array.all_eq_true'] at h1
              exact h1 v (by simpa using hv)
            have HFV : Hid (wkca.ownsRow 0 65 13 (.slice av2 L.length cv2) L.length (vfl L)) := by
              have h := HKc.out.owns HS2.out.fv HNV.out
              rw [HVV.out] at h
              exact h
            refine heldStep 18 rfl (by kernel_rfl) (fun K hK => ?_)
            refine step_append_val8 rfl _ _ rfl 0 (.slice av2 L.length cv2) L.length (vfl L) rfl HFV.out za zv zv_one8 rfl HZc.out.1 (by have := HLN.out; omega) (Nat.zero_le _) (fun v5 w5 ho5 hg5 hq5 => ?_)
            obtain ⟨gi, c5, hv5, cur5, hcur5, hcs5⟩ : ∃ gi c5, v5 = .slice (some ⟨gi, 0, none⟩) (L.length + 1) c5 ∧ ∃ cur5, w5.heap[gi]? = some (.cells cur5 65 (0, 0)) ∧ (L.length + 1) * 13 ≤ cur5.size := by
              rcases ho5.2 with ⟨_, h0⟩ | ⟨gi, c5, cur5, e, _, h1, h2, _, h3, _⟩
              · omega
              · exact ⟨gi, c5, e, cur5, h1, by rw [h3]; exact Nat.mul_le_mul_right 13 h2⟩
            subst hv5
            have hk5 : Kp (fun r => d2.vv.ownBlock = some r) wkca w5 := (Kp.refl _ _).grown hg5 (fun _ _ h => by rw [HVV.out]; exact h)
            have hgi5 : d2.vv.ownBlock = some gi ∨ gi = wkca.heap.size := by
              rcases hq5 with e | e
              · exact .inl (by rw [HVV.out, ← e]; rfl)
              · injection e with e
                exact .inr e
            have HPUT := hide (HS2.out.put HQ2.out HG2.out HU2.out HKc.out HEc.out HMc.out HTc.out HC13.out hk5 ho5 hgi5 hcur5)
            have hS5 : Sst p d.vb d.vt (.slice (some ⟨gu, 0, none⟩) d2.qs.length cu2) d2.qs b (off + L.length * 13) (cx L.length) w5 := hS.kp hk5 HWP.out HWU.out HWB.out
            have HGP : Hid (gi ≠ p) := fun e => by
              rcases hgi5 with h | h
              · exact HWP.out (by rw [← e]; exact h)
              · have h1 := HKc.out.size
                have h2 := blk_lt HS2.out.fp
                omega
            have HGB : Hid (gi ≠ b) := fun e => by
              rcases hgi5 with h | h
              · exact HWB.out (by rw [← e]; exact h)
              · have h1 := HKc.out.size
                have h2 := HBL.out
                omega
            have HGU : Hid (∀ q, (Value.slice (some ⟨gu, 0, none⟩) d2.qs.length cu2).ownBlock = some q → ¬ q = gi) := fun q hq e => by
              rcases hgi5 with h | h
              · exact HWU.out q hq (by rw [e]; exact h)
              · have h1 := HKc.out.size
                have h2 := HUL.out q hq
                omega
            have HI5 : Hid ((Tryz.prog.info? 65).map (·.size) = some cc.size) := by show _ = _; rw [HC13.out]; exact infoV
            have HX5 : Hid (L.length * 13 + cc.size ≤ cur5.size) := by have := HC13.out; show _ ≤ _; omega
            have HCR := hide hcur5
            have HP5 := hide hS5.1
            have HIX : Hid ((((L.length : Nat) : Int) < ((L.length + 1 : Nat) : Int)) ∧ (L.length : Int) < (L.length : Int) + 1) := ⟨by omega, by omega⟩
            refine (Hid.out hK) _ _ hS5 (fun hS6 => ?_)
            clear hK K ho5 hg5 hq5 hk5 hgi5 hcs5 hcur5 hS hS5 HFV HKc HEc HMc HTc HZc
            have hS := hS6
            clear hS6
            (try simp only [Act.put]); (try simp only [List.setIfInBounds_toArray, List.set_cons_zero, List.set_cons_succ])
            refine heldTake 19 (.pointer (some ⟨gi, L.length * 13, none⟩)) rfl (by kernel_rfl) (by kernel_rfl) (by kernel_rfl) (fun _ _ _ h => h) rfl hS (fun wy hy => by have h0 := HIX.out.1; have h1 := HIX.out.2; first | (go_simp; done) | (go_simp; omega) | (go_simp; rfl)) ?_
            (try simp only [Act.put]); (try simp only [List.setIfInBounds_toArray, List.set_cons_zero, List.set_cons_succ])
            refine heldTake 21 _ rfl (by kernel_rfl) (by kernel_rfl) (by kernel_rfl) (fun _ _ _ h => h) rfl hS (fun wy hy => by first | (go_simp; done) | (go_simp; rfl) | rfl) ?_
            (try simp only [Act.put]); (try simp only [List.setIfInBounds_toArray, List.set_cons_zero, List.set_cons_succ])
            refine heldTake 22 _ rfl (by kernel_rfl) (by kernel_rfl) (by kernel_rfl) (fun _ _ _ h => h) rfl hS (fun wy hy => by first | (go_simp; done) | (go_simp; rfl) | rfl) ?_
            (try simp only [Act.put]); (try simp only [List.setIfInBounds_toArray, List.set_cons_zero, List.set_cons_succ])
            have hS4 : Sst p d.vb d.vt (.slice (some ⟨gu, 0, none⟩) d2.qs.length cu2) d2.qs b (off + L.length * 13) (cx L.length) (w5.setRow gi (splice cur5.toList (L.length * 13) cc.toList).toArray) := hS.kp (row_kp w5 gi _) (fun e => HGP.out e.symm) HGU.out (fun e => HGB.out e.symm)
            obtain ⟨v4a, hv4a⟩ := HP5.out
            obtain ⟨v4b, hv4b⟩ := hS4.1
            have c4a : w5.cell? ⟨p, 4, none⟩ = some v4a := blk_cell (j := 4) hv4a rfl
            have f4a : w5.frozen? ⟨p, 4, none⟩ = false := blk_frozen 4 hv4a
            have c4b : (w5.setRow gi (splice cur5.toList (L.length * 13) cc.toList).toArray).cell? ⟨p, 4, none⟩ = some v4b := blk_cell (j := 4) hv4b rfl
            have f4b : (w5.setRow gi (splice cur5.toList (L.length * 13) cc.toList).toArray).frozen? ⟨p, 4, none⟩ = false := blk_frozen 4 hv4b
            have HS4s : Hid (Sst p d.vb d.vt (.slice (some ⟨gu, 0, none⟩) d2.qs.length cu2) d2.qs b (off + L.length * 13) (cx L.length) ((w5.setRow gi (splice cur5.toList (L.length * 13) cc.toList).toArray).setCell ⟨p, 4, none⟩ (.slice (some ⟨gi, 0, none⟩) (L.length + 1) c5))) := hS4.set _ HBP.out HUP.out
            have HS5s : Hid (Sst p d.vb d.vt (.slice (some ⟨gu, 0, none⟩) d2.qs.length cu2) d2.qs b (off + L.length * 13) (cx L.length) (w5.setCell ⟨p, 4, none⟩ (.slice (some ⟨gi, 0, none⟩) (L.length + 1) c5))) := hS.set _ HBP.out HUP.out
            have HEQ := hide (row_cell_comm w5 p gi 4 (.slice (some ⟨gi, 0, none⟩) (L.length + 1) c5) (splice cur5.toList (L.length * 13) cc.toList).toArray HGP.out)
            have HCR7 : Hid ((w5.setCell ⟨p, 4, none⟩ (.slice (some ⟨gi, 0, none⟩) (L.length + 1) c5)).heap[gi]? = some (.cells cur5 65 (0, 0))) := blk_other _ _ HCR.out HGP.out
            clear hv4a hv4b
            refine wpAnyH_ready (rs := [20, 23]) (by kernel_rfl) (by simp) ?_
            refine AllReadyH.cons rfl (fun K hK => ?_) (AllReadyH.cons rfl (fun K hK => ?_) AllReadyH.nil)
            · as_aux_lemma =>
              refine step_storePart8 rfl rfl gi (L.length * 13) cur5 cc 65 rfl rfl HCR.out HI5.out HX5.out HCO.out ?_
              refine (Shut.out hK) _ _ hS4 (fun hS6 => ?_)
              clear hK K hS hS4 c4a f4a
              (try simp only [Act.put])
              generalize w5.setRow gi (splice cur5.toList (L.length * 13) cc.toList).toArray = w6 at *
              refine heldStep 23 rfl (by kernel_rfl) (fun K hK => ?_)
              go_simp
              refine (Hid.out hK) _ _ HS4s.out (fun hS7 => ?_)
              clear hK K hS6 c4b f4b
              (try simp only [Act.put])
              refine heldDone (by kernel_rfl) ?_
              clear hS7
              have HFIN : Hid (∃ d' L', L'.length = L.length + 1 ∧ Svs w (w6.setCell ⟨p, 4, none⟩ (.slice (some ⟨gi, 0, none⟩) (L.length + 1) c5)) p d d' ts L') := ⟨_, L ++ [cc], by rw [List.length_append, List.length_singleton], HPUT.out⟩
              clear HPUT
              go_wp2_with fail
              go_roundw
              case rel => exact ⟨L.length + 1, by have := HLT.out; omega, by go_num, HFIN⟩
              case measure => have := HLT.out; simp [intOf]; omega
            · as_aux_lemma =>
              go_simp
              refine (Shut.out hK) _ _ HS5s.out (fun hS6 => ?_)
              clear hK K hS hS4 c4a f4a c4b f4b
              (try simp only [Act.put])
              refine heldStep 20 rfl (by kernel_rfl) (fun K hK => ?_)
              refine step_storePart8 rfl rfl gi (L.length * 13) cur5 cc 65 rfl rfl HCR7.out HI5.out HX5.out HCO.out ?_
              refine (Hid.out hK) _ _ (by rw [HEQ.out]; exact HS4s.out) (fun hS7 => ?_)
              clear hK K hS6
              (try simp only [Act.put])
              refine heldDone (by kernel_rfl) ?_
              clear hS7
              have HFIN : Hid (∃ d' L', L'.length = L.length + 1 ∧ Svs w ((w5.setCell ⟨p, 4, none⟩ (.slice (some ⟨gi, 0, none⟩) (L.length + 1) c5)).setRow gi (splice cur5.toList (L.length * 13) cc.toList).toArray) p d d' ts L') := ⟨_, L ++ [cc], by rw [List.length_append, List.length_singleton], by rw [HEQ.out]; exact HPUT.out⟩
              clear HPUT
              go_wp2_with fail
              go_roundw
              case rel => exact ⟨L.length + 1, by have := HLT.out; omega, by go_num, HFIN⟩
              case measure => have := HLT.out; simp [intOf]; omega
        · as_aux_lemma =>
          have HZn : Hid ((wk.alloc (.cells zv 65)).heap[wk.heap.size]? = some (.cells zv 65 (0, 0)) ∧ wd.heap.size ≤ wk.heap.size) := ⟨heap_alloc_new wk _, HKc.out.size⟩
          have HBA := hide (below_alloc4 wk (.cells zv 65))
          have hSn : Sst p d.vb d.vt (.slice (some ⟨gu, 0, none⟩) d2.qs.length cu2) d2.qs b (off + L.length * 13) (cx L.length) (wk.alloc (.cells zv 65)) := hS.kp (Kp.of_below (S := fun _ => False) HBA.out) (fun e => e) (fun _ _ e => e) (fun e => e)
          have HKn := hide (HKc.out.trans (Kp.of_below (S := d2.Ms L.length) HBA.out) (fun _ _ e => e))
          have HEn := hide (HEc.out.next HBA.out)
          refine step_val18 rfl rfl zv rfl rfl ?_
          refine (Shut.out hK) _ (wk.alloc (.cells zv 65)) hSn (fun hS2 => ?_)
          clear hK K hS HKc HEc 
          have hS := hS2
          clear hS2 hSn
          (try simp only [Act.put]); (try simp only [List.setIfInBounds_toArray])
          generalize hza : wk.heap.size = za at *
          clear hza
          generalize wk.alloc (.cells zv 65) = wka at *
          have HKc := HKn
          have HEc := HEn
          have HZc := HZn
          clear HKn HEn HZn HBA
          refine wpAnyH_ready (rs := [3, 15]) (by kernel_rfl) (by simp) ?_
          refine AllReadyH.cons rfl (fun K hK => ?_) (AllReadyH.cons rfl (fun K hK => ?_) AllReadyH.nil)
          · as_aux_lemma =>
            have x4 : wka.cell? ⟨p, 4, none⟩ = some (.slice av2 L.length cv2) := HP4.out wka HKc.out
            go_simp
            refine (Shut.out hK) _ _ hS (fun hS2 => ?_)
            clear hK K hS2 x4
            (try simp only [Act.put]); (try simp only [List.setIfInBounds_toArray, List.set_cons_zero, List.set_cons_succ])
            refine heldTake 16 _ rfl (by kernel_rfl) (by kernel_rfl) (by kernel_rfl) (fun _ _ _ h => h) rfl hS (fun wy hy => by first | (go_simp; done) | (go_simp; rfl) | rfl) ?_
            (try simp only [Act.put]); (try simp only [List.setIfInBounds_toArray, List.set_cons_zero, List.set_cons_succ])
            refine heldStep 15 rfl (by kernel_rfl) (fun K hK => ?_)
            have hcl := HIH.out u HUM.out wka g (d2.Ms L.length) (cx L.length) HEc.out (HTI.out wka HKc.out) HMQ.out
            go_simp
            refine hcl.mono ?_
            rintro e wkac ⟨cc, M2, rfl, hse, hsm, hsk, hst⟩
            have HKn := hide (HKc.out.trans hsk (fun _ _ e => e))
            have hSn : Sst p d.vb d.vt (.slice (some ⟨gu, 0, none⟩) d2.qs.length cu2) d2.qs b (off + L.length * 13) (cx L.length) wkac := hS.kp hsk HNP.out HNU.out HNB.out
            have HEn := hide hse
            have HMn : Hid (∀ x, M2 x → d2.Ms L.length x ∨ wd.heap.size ≤ x) := fun x hx => (hsm x hx).imp id (fun e => Nat.le_trans HKc.out.size e)
            have HTn := hide hst
            have HZn : Hid (wkac.heap[za]? = some (.cells zv 65 (0, 0)) ∧ wd.heap.size ≤ za) := ⟨(hsk.block _ (blk_lt HZc.out.1) (fun e => by have h1 := HS2.out.lt HQ2.out e; have h2 := HZc.out.2; omega)).trans HZc.out.1, HZc.out.2⟩
            refine (Hid.out hK) _ _ hSn (fun hS2 => ?_)
            clear hK K hS HKc HEc hcl hse hsm hsk hst HZc
            have hS := hS2
            clear hS2 hSn
            (try simp only [Act.put]); (try simp only [List.setIfInBounds_toArray, List.set_cons_zero, List.set_cons_succ])
            have HKc := HKn
            have HEc := HEn
            have HMc := HMn
            have HTc := HTn
            have HZc := HZn
            clear HZn
            clear HKn HEn HMn HTn
            have HC13 := hide HTc.out.tin.size13
            have HCO : Hid (∀ v ∈ cc.toList, v.oneCell' = true) := fun v hv => by
              have h1 := HTc.out.tin.all1
              rw [Array.all_eq_true'] at h1
              exact h1 v (by simpa using hv)
            have HFV : Hid (wkac.ownsRow 0 65 13 (.slice av2 L.length cv2) L.length (vfl L)) := by
              have h := HKc.out.owns HS2.out.fv HNV.out
              rw [HVV.out] at h
              exact h
            refine heldStep 18 rfl (by kernel_rfl) (fun K hK => ?_)
            refine step_append_val8 rfl _ _ rfl 0 (.slice av2 L.length cv2) L.length (vfl L) rfl HFV.out za zv zv_one8 rfl HZc.out.1 (by have := HLN.out; omega) (Nat.zero_le _) (fun v5 w5 ho5 hg5 hq5 => ?_)
            obtain ⟨gi, c5, hv5, cur5, hcur5, hcs5⟩ : ∃ gi c5, v5 = .slice (some ⟨gi, 0, none⟩) (L.length + 1) c5 ∧ ∃ cur5, w5.heap[gi]? = some (.cells cur5 65 (0, 0)) ∧ (L.length + 1) * 13 ≤ cur5.size := by
              rcases ho5.2 with ⟨_, h0⟩ | ⟨gi, c5, cur5, e, _, h1, h2, _, h3, _⟩
              · omega
              · exact ⟨gi, c5, e, cur5, h1, by rw [h3]; exact Nat.mul_le_mul_right 13 h2⟩
            subst hv5
            have hk5 : Kp (fun r => d2.vv.ownBlock = some r) wkac w5 := (Kp.refl _ _).grown hg5 (fun _ _ h => by rw [HVV.out]; exact h)
            have hgi5 : d2.vv.ownBlock = some gi ∨ gi = wkac.heap.size := by
              rcases hq5 with e | e
              · exact .inl (by rw [HVV.out, ← e]; rfl)
              · injection e with e
                exact .inr e
            have HPUT := hide (HS2.out.put HQ2.out HG2.out HU2.out HKc.out HEc.out HMc.out HTc.out HC13.out hk5 ho5 hgi5 hcur5)
            have hS5 : Sst p d.vb d.vt (.slice (some ⟨gu, 0, none⟩) d2.qs.length cu2) d2.qs b (off + L.length * 13) (cx L.length) w5 := hS.kp hk5 HWP.out HWU.out HWB.out
            have HGP : Hid (gi ≠ p) := fun e => by
              rcases hgi5 with h | h
              · exact HWP.out (by rw [← e]; exact h)
              · have h1 := HKc.out.size
                have h2 := blk_lt HS2.out.fp
                omega
            have HGB : Hid (gi ≠ b) := fun e => by
              rcases hgi5 with h | h
              · exact HWB.out (by rw [← e]; exact h)
              · have h1 := HKc.out.size
                have h2 := HBL.out
                omega
            have HGU : Hid (∀ q, (Value.slice (some ⟨gu, 0, none⟩) d2.qs.length cu2).ownBlock = some q → ¬ q = gi) := fun q hq e => by
              rcases hgi5 with h | h
              · exact HWU.out q hq (by rw [e]; exact h)
              · have h1 := HKc.out.size
                have h2 := HUL.out q hq
                omega
            have HI5 : Hid ((Tryz.prog.info? 65).map (·.size) = some cc.size) := by show _ = _; rw [HC13.out]; exact infoV
            have HX5 : Hid (L.length * 13 + cc.size ≤ cur5.size) := by have := HC13.out; show _ ≤ _; omega
            have HCR := hide hcur5
            have HP5 := hide hS5.1
            have HIX : Hid ((((L.length : Nat) : Int) < ((L.length + 1 : Nat) : Int)) ∧ (L.length : Int) < (L.length : Int) + 1) := ⟨by omega, by omega⟩
            refine (Hid.out hK) _ _ hS5 (fun hS6 => ?_)
            clear hK K ho5 hg5 hq5 hk5 hgi5 hcs5 hcur5 hS hS5 HFV HKc HEc HMc HTc HZc
            have hS := hS6
            clear hS6
            (try simp only [Act.put]); (try simp only [List.setIfInBounds_toArray, List.set_cons_zero, List.set_cons_succ])
            refine heldTake 19 (.pointer (some ⟨gi, L.length * 13, none⟩)) rfl (by kernel_rfl) (by kernel_rfl) (by kernel_rfl) (fun _ _ _ h => h) rfl hS (fun wy hy => by have h0 := HIX.out.1; have h1 := HIX.out.2; first | (go_simp; done) | (go_simp; omega) | (go_simp; rfl)) ?_
            (try simp only [Act.put]); (try simp only [List.setIfInBounds_toArray, List.set_cons_zero, List.set_cons_succ])
            refine heldTake 21 _ rfl (by kernel_rfl) (by kernel_rfl) (by kernel_rfl) (fun _ _ _ h => h) rfl hS (fun wy hy => by first | (go_simp; done) | (go_simp; rfl) | rfl) ?_
            (try simp only [Act.put]); (try simp only [List.setIfInBounds_toArray, List.set_cons_zero, List.set_cons_succ])
            refine heldTake 22 _ rfl (by kernel_rfl) (by kernel_rfl) (by kernel_rfl) (fun _ _ _ h => h) rfl hS (fun wy hy => by first | (go_simp; done) | (go_simp; rfl) | rfl) ?_
            (try simp only [Act.put]); (try simp only [List.setIfInBounds_toArray, List.set_cons_zero, List.set_cons_succ])
            have hS4 : Sst p d.vb d.vt (.slice (some ⟨gu, 0, none⟩) d2.qs.length cu2) d2.qs b (off + L.length * 13) (cx L.length) (w5.setRow gi (splice cur5.toList (L.length * 13) cc.toList).toArray) := hS.kp (row_kp w5 gi _) (fun e => HGP.out e.symm) HGU.out (fun e => HGB.out e.symm)
            obtain ⟨v4a, hv4a⟩ := HP5.out
            obtain ⟨v4b, hv4b⟩ := hS4.1
            have c4a : w5.cell? ⟨p, 4, none⟩ = some v4a := blk_cell (j := 4) hv4a rfl
            have f4a : w5.frozen? ⟨p, 4, none⟩ = false := blk_frozen 4 hv4a
            have c4b : (w5.setRow gi (splice cur5.toList (L.length * 13) cc.toList).toArray).cell? ⟨p, 4, none⟩ = some v4b := blk_cell (j := 4) hv4b rfl
            have f4b : (w5.setRow gi (splice cur5.toList (L.length * 13) cc.toList).toArray).frozen? ⟨p, 4, none⟩ = false := blk_frozen 4 hv4b
            have HS4s : Hid (Sst p d.vb d.vt (.slice (some ⟨gu, 0, none⟩) d2.qs.length cu2) d2.qs b (off + L.length * 13) (cx L.length) ((w5.setRow gi (splice cur5.toList (L.length * 13) cc.toList).toArray).setCell ⟨p, 4, none⟩ (.slice (some ⟨gi, 0, none⟩) (L.length + 1) c5))) := hS4.set _ HBP.out HUP.out
            have HS5s : Hid (Sst p d.vb d.vt (.slice (some ⟨gu, 0, none⟩) d2.qs.length cu2) d2.qs b (off + L.length * 13) (cx L.length) (w5.setCell ⟨p, 4, none⟩ (.slice (some ⟨gi, 0, none⟩) (L.length + 1) c5))) := hS.set _ HBP.out HUP.out
            have HEQ := hide (row_cell_comm w5 p gi 4 (.slice (some ⟨gi, 0, none⟩) (L.length + 1) c5) (splice cur5.toList (L.length * 13) cc.toList).toArray HGP.out)
            have HCR7 : Hid ((w5.setCell ⟨p, 4, none⟩ (.slice (some ⟨gi, 0, none⟩) (L.length + 1) c5)).heap[gi]? = some (.cells cur5 65 (0, 0))) := blk_other _ _ HCR.out HGP.out
            clear hv4a hv4b
            refine wpAnyH_ready (rs := [20, 23]) (by kernel_rfl) (by simp) ?_
            refine AllReadyH.cons rfl (fun K hK => ?_) (AllReadyH.cons rfl (fun K hK => ?_) AllReadyH.nil)
            · as_aux_lemma =>
              refine step_storePart8 rfl rfl gi (L.length * 13) cur5 cc 65 rfl rfl HCR.out HI5.out HX5.out HCO.out ?_
              refine (Shut.out hK) _ _ hS4 (fun hS6 => ?_)
              clear hK K hS hS4 c4a f4a
              (try simp only [Act.put])
              generalize w5.setRow gi (splice cur5.toList (L.length * 13) cc.toList).toArray = w6 at *
              refine heldStep 23 rfl (by kernel_rfl) (fun K hK => ?_)
              go_simp
              refine (Hid.out hK) _ _ HS4s.out (fun hS7 => ?_)
              clear hK K hS6 c4b f4b
              (try simp only [Act.put])
              refine heldDone (by kernel_rfl) ?_
              clear hS7
              have HFIN : Hid (∃ d' L', L'.length = L.length + 1 ∧ Svs w (w6.setCell ⟨p, 4, none⟩ (.slice (some ⟨gi, 0, none⟩) (L.length + 1) c5)) p d d' ts L') := ⟨_, L ++ [cc], by rw [List.length_append, List.length_singleton], HPUT.out⟩
              clear HPUT
              go_wp2_with fail
              go_roundw
              case rel => exact ⟨L.length + 1, by have := HLT.out; omega, by go_num, HFIN⟩
              case measure => have := HLT.out; simp [intOf]; omega
            · as_aux_lemma =>
              go_simp
              refine (Shut.out hK) _ _ HS5s.out (fun hS6 => ?_)
              clear hK K hS hS4 c4a f4a c4b f4b
              (try simp only [Act.put])
              refine heldStep 20 rfl (by kernel_rfl) (fun K hK => ?_)
              refine step_storePart8 rfl rfl gi (L.length * 13) cur5 cc 65 rfl rfl HCR7.out HI5.out HX5.out HCO.out ?_
              refine (Hid.out hK) _ _ (by rw [HEQ.out]; exact HS4s.out) (fun hS7 => ?_)
              clear hK K hS6
              (try simp only [Act.put])
              refine heldDone (by kernel_rfl) ?_
              clear hS7
              have HFIN : Hid (∃ d' L', L'.length = L.length + 1 ∧ Svs w ((w5.setCell ⟨p, 4, none⟩ (.slice (some ⟨gi, 0, none⟩) (L.length + 1) c5)).setRow gi (splice cur5.toList (L.length * 13) cc.toList).toArray) p d d' ts L') := ⟨_, L ++ [cc], by rw [List.length_append, List.length_singleton], by rw [HEQ.out]; exact HPUT.out⟩
              clear HPUT
              go_wp2_with fail
              go_roundw
              case rel => exact ⟨L.length + 1, by have := HLT.out; omega, by go_num, HFIN⟩
              case measure => have := HLT.out; simp [intOf]; omega
          · as_aux_lemma =>
            have hcl := HIH.out u HUM.out wka g (d2.Ms L.length) (cx L.length) HEc.out (HTI.out wka HKc.out) HMQ.out
            go_simp
            refine hcl.mono ?_
            rintro e wkac ⟨cc, M2, rfl, hse, hsm, hsk, hst⟩
            have HKn := hide (HKc.out.trans hsk (fun _ _ e => e))
            have hSn : Sst p d.vb d.vt (.slice (some ⟨gu, 0, none⟩) d2.qs.length cu2) d2.qs b (off + L.length * 13) (cx L.length) wkac := hS.kp hsk HNP.out HNU.out HNB.out
            have HEn := hide hse
            have HMn : Hid (∀ x, M2 x → d2.Ms L.length x ∨ wd.heap.size ≤ x) := fun x hx => (hsm x hx).imp id (fun e => Nat.le_trans HKc.out.size e)
            have HTn := hide hst
            have HZn : Hid (wkac.heap[za]? = some (.cells zv 65 (0, 0)) ∧ wd.heap.size ≤ za) := ⟨(hsk.block _ (blk_lt HZc.out.1) (fun e => by have h1 := HS2.out.lt HQ2.out e; have h2 := HZc.out.2; omega)).trans HZc.out.1, HZc.out.2⟩
            refine (Shut.out hK) _ _ hSn (fun hS2 => ?_)
            clear hK K hS HKc HEc hcl hse hsm hsk hst HZc
            have hS := hS2
            clear hS2 hSn
            (try simp only [Act.put]); (try simp only [List.setIfInBounds_toArray, List.set_cons_zero, List.set_cons_succ])
            have HKc := HKn
            have HEc := HEn
            have HMc := HMn
            have HTc := HTn
            have HZc := HZn
            clear HZn
            clear HKn HEn HMn HTn
            refine heldStep 3 rfl (by kernel_rfl) (fun K hK => ?_)
            have x4 : wkac.cell? ⟨p, 4, none⟩ = some (.slice av2 L.length cv2) := HP4.out wkac HKc.out
            go_simp
            refine (Hid.out hK) _ _ hS (fun hS2 => ?_)
            clear hK K hS2 x4
            (try simp only [Act.put]); (try simp only [List.setIfInBounds_toArray, List.set_cons_zero, List.set_cons_succ])
            refine heldTake 16 _ rfl (by kernel_rfl) (by kernel_rfl) (by kernel_rfl) (fun _ _ _ h => h) rfl hS (fun wy hy => by first | (go_simp; done) | (go_simp; rfl) | rfl) ?_
            (try simp only [Act.put]); (try simp only [List.setIfInBounds_toArray, List.set_cons_zero, List.set_cons_succ])
            have HC13 := hide HTc.out.tin.size13
            have HCO : Hid (∀ v ∈ cc.toList, v.oneCell' = true) := fun v hv => by
              have h1 := HTc.out.tin.all1
              rw [Array.all_eq_true'] at h1
              exact h1 v (by simpa using hv)
            have HFV : Hid (wkac.ownsRow 0 65 13 (.slice av2 L.length cv2) L.length (vfl L)) := by
              have h := HKc.out.owns HS2.out.fv HNV.out
              rw [HVV.out] at h
              exact h
            refine heldStep 18 rfl (by kernel_rfl) (fun K hK => ?_)
            refine step_append_val8 rfl _ _ rfl 0 (.slice av2 L.length cv2) L.length (vfl L) rfl HFV.out za zv zv_one8 rfl HZc.out.1 (by have := HLN.out; omega) (Nat.zero_le _) (fun v5 w5 ho5 hg5 hq5 => ?_)
            obtain ⟨gi, c5, hv5, cur5, hcur5, hcs5⟩ : ∃ gi c5, v5 = .slice (some ⟨gi, 0, none⟩) (L.length + 1) c5 ∧ ∃ cur5, w5.heap[gi]? = some (.cells cur5 65 (0, 0)) ∧ (L.length + 1) * 13 ≤ cur5.size := by
              rcases ho5.2 with ⟨_, h0⟩ | ⟨gi, c5, cur5, e, _, h1, h2, _, h3, _⟩
              · omega
              · exact ⟨gi, c5, e, cur5, h1, by rw [h3]; exact Nat.mul_le_mul_right 13 h2⟩
            subst hv5
            have hk5 : Kp (fun r => d2.vv.ownBlock = some r) wkac w5 := (Kp.refl _ _).grown hg5 (fun _ _ h => by rw [HVV.out]; exact h)
            have hgi5 : d2.vv.ownBlock = some gi ∨ gi = wkac.heap.size := by
              rcases hq5 with e | e
              · exact .inl (by rw [HVV.out, ← e]; rfl)
              · injection e with e
                exact .inr e
            have HPUT := hide (HS2.out.put HQ2.out HG2.out HU2.out HKc.out HEc.out HMc.out HTc.out HC13.out hk5 ho5 hgi5 hcur5)
            have hS5 : Sst p d.vb d.vt (.slice (some ⟨gu, 0, none⟩) d2.qs.length cu2) d2.qs b (off + L.length * 13) (cx L.length) w5 := hS.kp hk5 HWP.out HWU.out HWB.out
            have HGP : Hid (gi ≠ p) := fun e => by
              rcases hgi5 with h | h
              · exact HWP.out (by rw [← e]; exact h)
              · have h1 := HKc.out.size
                have h2 := blk_lt HS2.out.fp
                omega
            have HGB : Hid (gi ≠ b) := fun e => by
              rcases hgi5 with h | h
              · exact HWB.out (by rw [← e]; exact h)
              · have h1 := HKc.out.size
                have h2 := HBL.out
                omega
            have HGU : Hid (∀ q, (Value.slice (some ⟨gu, 0, none⟩) d2.qs.length cu2).ownBlock = some q → ¬ q = gi) := fun q hq e => by
              rcases hgi5 with h | h
              · exact HWU.out q hq (by rw [e]; exact h)
              · have h1 := HKc.out.size
                have h2 := HUL.out q hq
                omega
            have HI5 : Hid ((Tryz.prog.info? 65).map (·.size) = some cc.size) := by show _ = _; rw [HC13.out]; exact infoV
            have HX5 : Hid (L.length * 13 + cc.size ≤ cur5.size) := by have := HC13.out; show _ ≤ _; omega
            have HCR := hide hcur5
            have HP5 := hide hS5.1
            have HIX : Hid ((((L.length : Nat) : Int) < ((L.length + 1 : Nat) : Int)) ∧ (L.length : Int) < (L.length : Int) + 1) := ⟨by omega, by omega⟩
            refine (Hid.out hK) _ _ hS5 (fun hS6 => ?_)
            clear hK K ho5 hg5 hq5 hk5 hgi5 hcs5 hcur5 hS hS5 HFV HKc HEc HMc HTc HZc
            have hS := hS6
            clear hS6
            (try simp only [Act.put]); (try simp only [List.setIfInBounds_toArray, List.set_cons_zero, List.set_cons_succ])
            refine heldTake 19 (.pointer (some ⟨gi, L.length * 13, none⟩)) rfl (by kernel_rfl) (by kernel_rfl) (by kernel_rfl) (fun _ _ _ h => h) rfl hS (fun wy hy => by have h0 := HIX.out.1; have h1 := HIX.out.2; first | (go_simp; done) | (go_simp; omega) | (go_simp; rfl)) ?_
            (try simp only [Act.put]); (try simp only [List.setIfInBounds_toArray, List.set_cons_zero, List.set_cons_succ])
            refine heldTake 21 _ rfl (by kernel_rfl) (by kernel_rfl) (by kernel_rfl) (fun _ _ _ h => h) rfl hS (fun wy hy => by first | (go_simp; done) | (go_simp; rfl) | rfl) ?_
            (try simp only [Act.put]); (try simp only [List.setIfInBounds_toArray, List.set_cons_zero, List.set_cons_succ])
            refine heldTake 22 _ rfl (by kernel_rfl) (by kernel_rfl) (by kernel_rfl) (fun _ _ _ h => h) rfl hS (fun wy hy => by first | (go_simp; done) | (go_simp; rfl) | rfl) ?_
            (try simp only [Act.put]); (try simp only [List.setIfInBounds_toArray, List.set_cons_zero, List.set_cons_succ])
            have hS4 : Sst p d.vb d.vt (.slice (some ⟨gu, 0, none⟩) d2.qs.length cu2) d2.qs b (off + L.length * 13) (cx L.length) (w5.setRow gi (splice cur5.toList (L.length * 13) cc.toList).toArray) := hS.kp (row_kp w5 gi _) (fun e => HGP.out e.symm) HGU.out (fun e => HGB.out e.symm)
            obtain ⟨v4a, hv4a⟩ := HP5.out
            obtain ⟨v4b, hv4b⟩ := hS4.1
            have c4a : w5.cell? ⟨p, 4, none⟩ = some v4a := blk_cell (j := 4) hv4a rfl
            have f4a : w5.frozen? ⟨p, 4, none⟩ = false := blk_frozen 4 hv4a
            have c4b : (w5.setRow gi (splice cur5.toList (L.length * 13) cc.toList).toArray).cell? ⟨p, 4, none⟩ = some v4b := blk_cell (j := 4) hv4b rfl
            have f4b : (w5.setRow gi (splice cur5.toList (L.length * 13) cc.toList).toArray).frozen? ⟨p, 4, none⟩ = false := blk_frozen 4 hv4b
            have HS4s : Hid (Sst p d.vb d.vt (.slice (some ⟨gu, 0, none⟩) d2.qs.length cu2) d2.qs b (off + L.length * 13) (cx L.length) ((w5.setRow gi (splice cur5.toList (L.length * 13) cc.toList).toArray).setCell ⟨p, 4, none⟩ (.slice (some ⟨gi, 0, none⟩) (L.length + 1) c5))) := hS4.set _ HBP.out HUP.out
            have HS5s : Hid (Sst p d.vb d.vt (.slice (some ⟨gu, 0, none⟩) d2.qs.length cu2) d2.qs b (off + L.length * 13) (cx L.length) (w5.setCell ⟨p, 4, none⟩ (.slice (some ⟨gi, 0, none⟩) (L.length + 1) c5))) := hS.set _ HBP.out HUP.out
            have HEQ := hide (row_cell_comm w5 p gi 4 (.slice (some ⟨gi, 0, none⟩) (L.length + 1) c5) (splice cur5.toList (L.length * 13) cc.toList).toArray HGP.out)
            have HCR7 : Hid ((w5.setCell ⟨p, 4, none⟩ (.slice (some ⟨gi, 0, none⟩) (L.length + 1) c5)).heap[gi]? = some (.cells cur5 65 (0, 0))) := blk_other _ _ HCR.out HGP.out
            clear hv4a hv4b
            refine wpAnyH_ready (rs := [20, 23]) (by kernel_rfl) (by simp) ?_
            refine AllReadyH.cons rfl (fun K hK => ?_) (AllReadyH.cons rfl (fun K hK => ?_) AllReadyH.nil)
            · as_aux_lemma =>
              refine step_storePart8 rfl rfl gi (L.length * 13) cur5 cc 65 rfl rfl HCR.out HI5.out HX5.out HCO.out ?_
              refine (Shut.out hK) _ _ hS4 (fun hS6 => ?_)
              clear hK K hS hS4 c4a f4a
              (try simp only [Act.put])
              generalize w5.setRow gi (splice cur5.toList (L.length * 13) cc.toList).toArray = w6 at *
              refine heldStep 23 rfl (by kernel_rfl) (fun K hK => ?_)
              go_simp
              refine (Hid.out hK) _ _ HS4s.out (fun hS7 => ?_)
              clear hK K hS6 c4b f4b
              (try simp only [Act.put])
              refine heldDone (by kernel_rfl) ?_
              clear hS7
              have HFIN : Hid (∃ d' L', L'.length = L.length + 1 ∧ Svs w (w6.setCell ⟨p, 4, none⟩ (.slice (some ⟨gi, 0, none⟩) (L.length + 1) c5)) p d d' ts L') := ⟨_, L ++ [cc], by rw [List.length_append, List.length_singleton], HPUT.out⟩
              clear HPUT
              go_wp2_with fail
              go_roundw
              case rel => exact ⟨L.length + 1, by have := HLT.out; omega, by go_num, HFIN⟩
              case measure => have := HLT.out; simp [intOf]; omega
            · as_aux_lemma =>
              go_simp
              refine (Shut.out hK) _ _ HS5s.out (fun hS6 => ?_)
              clear hK K hS hS4 c4a f4a c4b f4b
              (try simp only [Act.put])
              refine heldStep 20 rfl (by kernel_rfl) (fun K hK => ?_)
              refine step_storePart8 rfl rfl gi (L.length * 13) cur5 cc 65 rfl rfl HCR7.out HI5.out HX5.out HCO.out ?_
              refine (Hid.out hK) _ _ (by rw [HEQ.out]; exact HS4s.out) (fun hS7 => ?_)
              clear hK K hS6
              (try simp only [Act.put])
              refine heldDone (by kernel_rfl) ?_
              clear hS7
              have HFIN : Hid (∃ d' L', L'.length = L.length + 1 ∧ Svs w ((w5.setCell ⟨p, 4, none⟩ (.slice (some ⟨gi, 0, none⟩) (L.length + 1) c5)).setRow gi (splice cur5.toList (L.length * 13) cc.toList).toArray) p d d' ts L') := ⟨_, L ++ [cc], by rw [List.length_append, List.length_singleton], by rw [HEQ.out]; exact HPUT.out⟩
              clear HPUT
              go_wp2_with fail
              go_roundw
              case rel => exact ⟨L.length + 1, by have := HLT.out; omega, by go_num, HFIN⟩
              case measure => have := HLT.out; simp [intOf]; omega

      · have g2 : ((L.length : Int) == (d1.qs.length : Int)) = false := beq_eq_false_iff_ne.2 (by omega)
        have HQ2 : Hid (L.length < d1.qs.length) := by show _ < _; omega
        have HS2 := HS1
        clear HS1 hq hle hlt hi
        go_upto_region 7 with fail
        have g3 : (L.length : Int) < (d1.qs.length : Int) := by have := HQ2.out; omega
        clear q5 f5 g2
        generalize d1 = d2 at *
        generalize wr = wd at *
        obtain ⟨g, hg⟩ : ∃ g, d2.qs[L.length]? = some g := ⟨_, List.getElem?_eq_getElem HQ2.out⟩
        obtain ⟨u, hu⟩ : ∃ u, ts[L.length]? = some u := ⟨_, List.getElem?_eq_getElem HLT.out⟩
        obtain ⟨b, off, rfl, hMb, hcc⟩ := HA.out.resolve_left (fun h => by have := HLT.out; rw [h] at this; simp at this)
        obtain ⟨av2, cv2, hvv2⟩ := row_slice HS2.out.fv
        obtain ⟨gu, cu2, hvu2⟩ : ∃ gu cu2, d2.vu = .slice (some ⟨gu, 0, none⟩) d2.qs.length cu2 := by
          have hq := HQ2.out
          rcases HS2.out.fu.2 with ⟨_, h0⟩ | ⟨g', c', cur, e, _⟩
          · omega
          · exact ⟨g', c', e⟩
        have HG2 := hide hg
        have HU2 := hide hu
        have HVV := hide hvv2
        have HVU := hide hvu2
        have HUM : Hid (u ∈ ts) := List.mem_of_getElem? hu
        have HMQ : Hid (tmuch u ≤ 100000) := HMU.out u HUM.out
        have HBL0 : Hid (b < w.heap.size ∨ (cx L.length).size = 0) := by
          show _ ∨ _
          rcases Nat.eq_zero_or_pos (cx L.length).size with e | e
          · exact .inr e
          · exact .inl (cell_lt6 (hcc L.length HLT.out 0 _ (Array.getElem?_eq_getElem e)))
        have HCX : Hid ((cx L.length).size = 13) := (HTS.out L.length u hu).tin.size13
        have HBW : Hid (b < w.heap.size) := HBL0.out.resolve_right (by have := HCX.out; omega)
        have HBL : Hid (b < wd.heap.size) := Nat.lt_of_lt_of_le HBW.out HS2.out.z
        have HNI : Hid (∀ q, d2.inn p q → q ≠ b) := fun q hq e => by
          rcases HS2.out.nw q hq with h1 | h1
          · exact hMb (by rw [← e]; exact HIN.out q h1)
          · have := HBW.out
            omega
        have HNP : Hid (¬ d2.Ms L.length p) := fun e => (HS2.out.ms L.length HQ2.out p e).1 rfl
        have HNU : Hid (∀ q, (Value.slice (some ⟨gu, 0, none⟩) d2.qs.length cu2).ownBlock = some q → ¬ d2.Ms L.length q) := fun q hq e => (HS2.out.ms L.length HQ2.out q e).2.2 (by rw [hvu2]; exact hq)
        have HNV : Hid (∀ q, d2.vv.ownBlock = some q → ¬ d2.Ms L.length q) := fun q hq e => (HS2.out.ms L.length HQ2.out q e).2.1 hq
        have HNB : Hid (¬ d2.Ms L.length b) := fun e => HNI.out b (.inr (.inr (.inr ⟨_, HQ2.out, e⟩))) rfl
        have HWP : Hid (¬ d2.vv.ownBlock = some p) := own_not HS2.out.fv HS2.out.fp (by decide)
        have HWU : Hid (∀ q, (Value.slice (some ⟨gu, 0, none⟩) d2.qs.length cu2).ownBlock = some q → ¬ d2.vv.ownBlock = some q) := fun q hq e => own_apart HS2.out.fu HS2.out.fv (by decide) (by rw [hvu2]; exact hq) e
        have HWB : Hid (¬ d2.vv.ownBlock = some b) := fun e => HNI.out b (.inr (.inl e)) rfl
        have HUL : Hid (∀ q, (Value.slice (some ⟨gu, 0, none⟩) d2.qs.length cu2).ownBlock = some q → q < wd.heap.size) := fun q hq => (HS2.out.fu.lt q (by rw [hvu2]; exact hq)).2
        have HBP : Hid (b ≠ p) := fun e => HNI.out p (.inl rfl) e.symm
        have HUP : Hid (∀ q, (Value.slice (some ⟨gu, 0, none⟩) d2.qs.length cu2).ownBlock = some q → ¬ q = p) := fun q hq e => own_not HS2.out.fu HS2.out.fp (by decide) (by rw [hvu2, hq, e])
        have HP4 : Hid (∀ wy, Kp (d2.Ms L.length) wd wy → wy.cell? ⟨p, 4, none⟩ = some (.slice av2 L.length cv2)) := fun wy hk => by rw [← HVV.out]; exact blk_cell (j := 4) ((hk.block p (blk_lt HS2.out.fp) HNP.out).trans HS2.out.fp) rfl
        have HTI : Hid (∀ wy, Kp (d2.Ms L.length) wd wy → Tis wy (d2.Ms L.length) u (cx L.length)) := fun wy hk => by
          have h1 := ((HTS.out L.length u hu).widen.kp (HS2.out.k.mono (fun q _ e => .inl (HIN.out q e)))).mono (T := d2.Ms L.length) (fun q hq => (HS2.out.nw q (.inr (.inr (.inr ⟨_, HQ2.out, hq⟩)))).imp (HIN.out q) id)
          exact h1.kp hk
        have HS0 : Hid (Sst p d.vb d.vt (.slice (some ⟨gu, 0, none⟩) d2.qs.length cu2) d2.qs b (off + L.length * 13) (cx L.length) wd) := by
          refine ⟨⟨d2.vv, ?_⟩, ?_, fun j x hx => ?_⟩
          · have h1 := HS2.out.fp
            rw [hvu2] at h1
            exact h1
          · have h1 := HS2.out.fu
            rw [hvu2] at h1
            exact h1
          · exact HS2.out.k.cell (hcc L.length HLT.out j x hx) (fun e => hMb (HIN.out b e))
        clear hg hu hMb hcc hvv2 hvu2 HBL0
        go_wp2_with fail
        refine heldStart (S := Sst p d.vb d.vt (.slice (some ⟨gu, 0, none⟩) d2.qs.length cu2) d2.qs b (off + L.length * 13) (cx L.length)) (by kernel_rfl) ?_
        have HB1 : Hid (Below wd.heap.size wd wd.drew) := by refine Below.drew ?_; exact Below.refl _ _
        have HKc : Hid (Kp (d2.Ms L.length) wd wd.drew) := Kp.of_below HB1.out
        have hS : Sst p d.vb d.vt (.slice (some ⟨gu, 0, none⟩) d2.qs.length cu2) d2.qs b (off + L.length * 13) (cx L.length) wd.drew := HS0.out.kp (Kp.of_below (S := fun _ => False) HB1.out) (fun e => e) (fun _ _ e => e) (fun e => e)
        have HEc := hide ((HS2.out.c L.length g HG2.out).next HB1.out)
        clear HB1 HS0
        generalize wd.drew = wk at *
        refine heldTake 0 _ rfl (by kernel_rfl) (by kernel_rfl) (by kernel_rfl) (fun _ _ _ h => h) rfl hS (fun wy hy => by first | (go_simp; done) | (go_simp; rfl) | rfl) ?_
        (try simp only [Act.put]); (try simp only [List.setIfInBounds_toArray, List.set_cons_zero, List.set_cons_succ])
        refine heldTake 1 _ rfl (by kernel_rfl) (by kernel_rfl) (by kernel_rfl) (fun _ _ _ h => h) rfl hS (fun wy hy => by first | (go_simp; done) | (go_simp; rfl) | rfl) ?_
        (try simp only [Act.put]); (try simp only [List.setIfInBounds_toArray, List.set_cons_zero, List.set_cons_succ])
        refine heldTake 2 _ rfl (by kernel_rfl) (by kernel_rfl) (by kernel_rfl) (fun _ _ _ h => h) rfl hS (fun wy hy => by first | (go_simp; done) | (go_simp; rfl) | rfl) ?_
        (try simp only [Act.put]); (try simp only [List.setIfInBounds_toArray, List.set_cons_zero, List.set_cons_succ])
        refine heldTake 4 _ rfl (by kernel_rfl) (by kernel_rfl) (by kernel_rfl) (fun _ _ _ h => h) rfl hS (fun wy hy => by first | (go_simp; done) | (go_simp; rfl) | rfl) ?_
        (try simp only [Act.put]); (try simp only [List.setIfInBounds_toArray, List.set_cons_zero, List.set_cons_succ])
        refine heldTake 5 _ rfl (by kernel_rfl) (by kernel_rfl) (by kernel_rfl) (fun _ _ _ h => h) rfl hS (fun wy hy => by first | (go_simp; done) | (go_simp; rfl) | rfl) ?_
        (try simp only [Act.put]); (try simp only [List.setIfInBounds_toArray, List.set_cons_zero, List.set_cons_succ])
        refine heldTake 6 _ rfl (by kernel_rfl) (by kernel_rfl) (by kernel_rfl) (fun _ _ _ h => h) rfl hS (fun wy hy => by first | (go_simp; done) | (go_simp; rfl) | rfl) ?_
        (try simp only [Act.put]); (try simp only [List.setIfInBounds_toArray, List.set_cons_zero, List.set_cons_succ])
        refine heldTake 7 _ rfl (by kernel_rfl) (by kernel_rfl) (by kernel_rfl) (fun _ _ _ h => h) rfl hS (fun wy hy => by obtain ⟨v4, h4⟩ := hy.1; have h0 : wy.cell? ⟨p, 5, none⟩ = some (.slice (some ⟨gu, 0, none⟩) d2.qs.length cu2) := blk_cell (j := 5) h4 rfl; first | (go_simp; done) | (go_simp; rfl) | rfl) ?_
        (try simp only [Act.put]); (try simp only [List.setIfInBounds_toArray, List.set_cons_zero, List.set_cons_succ])
        refine heldTake 8 _ rfl (by kernel_rfl) (by kernel_rfl) (by kernel_rfl) (fun _ _ _ h => h) rfl hS (fun wy hy => by first | (go_simp; done) | (go_simp; rfl) | rfl) ?_
        (try simp only [Act.put]); (try simp only [List.setIfInBounds_toArray, List.set_cons_zero, List.set_cons_succ])
        refine heldTake 9 _ rfl (by kernel_rfl) (by kernel_rfl) (by kernel_rfl) (fun _ _ _ h => h) rfl hS (fun wy hy => by first | (go_simp; done) | (go_simp; rfl) | rfl) ?_
        (try simp only [Act.put]); (try simp only [List.setIfInBounds_toArray, List.set_cons_zero, List.set_cons_succ])
        refine heldTake 10 _ rfl (by kernel_rfl) (by kernel_rfl) (by kernel_rfl) (fun _ _ _ h => h) rfl hS (fun wy hy => by have h0 : wy.cell? ⟨gu, L.length, none⟩ = some (.pointer (some ⟨g, 0, none⟩)) := (own_cell hy.2.1 (j := L.length) (by simp [sps, HG2.out])).1; first | (go_simp; done) | (go_simp; rfl) | rfl) ?_
        (try simp only [Act.put]); (try simp only [List.setIfInBounds_toArray, List.set_cons_zero, List.set_cons_succ])
        refine heldTake 11 _ rfl (by kernel_rfl) (by kernel_rfl) (by kernel_rfl) (fun _ _ _ h => h) rfl hS (fun wy hy => by first | (go_simp; done) | (go_simp; rfl) | rfl) ?_
        (try simp only [Act.put]); (try simp only [List.setIfInBounds_toArray, List.set_cons_zero, List.set_cons_succ])
        refine heldTake 12 _ rfl (by kernel_rfl) (by kernel_rfl) (by kernel_rfl) (fun _ _ _ h => h) rfl hS (fun wy hy => by first | (go_simp; done) | (go_simp; rfl) | rfl) ?_
        (try simp only [Act.put]); (try simp only [List.setIfInBounds_toArray, List.set_cons_zero, List.set_cons_succ])
        refine heldTake 13 _ rfl (by kernel_rfl) (by kernel_rfl) (by kernel_rfl) (fun _ _ _ h => h) rfl hS (fun wy hy => by first | (go_simp; done) | (go_simp; rfl) | rfl) ?_
        (try simp only [Act.put]); (try simp only [List.setIfInBounds_toArray, List.set_cons_zero, List.set_cons_succ])
        refine heldTake 14 _ rfl (by kernel_rfl) (by kernel_rfl) (by kernel_rfl) (fun _ _ _ h => h) rfl hS (fun wy hy => exec_valAt (g := b) (off := off + L.length * 13) (cs := cx L.length) rfl rfl HCX.out hy.2.2) ?_
        (try simp only [Act.put]); (try simp only [List.setIfInBounds_toArray, List.set_cons_zero, List.set_cons_succ])
        refine wpAnyH_ready (rs := [3, 15, 17]) (by kernel_rfl) (by simp) ?_
        refine AllReadyH.cons rfl (fun K hK => ?_) (AllReadyH.cons rfl (fun K hK => ?_) (AllReadyH.cons rfl (fun K hK => ?_) AllReadyH.nil))
        · as_aux_lemma =>
          have x4 : wk.cell? ⟨p, 4, none⟩ = some (.slice av2 L.length cv2) := HP4.out wk HKc.out
          go_simp
          refine (Shut.out hK) _ _ hS (fun hS2 => ?_)
          clear hK K hS2 x4
          (try simp only [Act.put]); (try simp only [List.setIfInBounds_toArray, List.set_cons_zero, List.set_cons_succ])
          refine heldTake 16 _ rfl (by kernel_rfl) (by kernel_rfl) (by kernel_rfl) (fun _ _ _ h => h) rfl hS (fun wy hy => by first | (go_simp; done) | (go_simp; rfl) | rfl) ?_
          (try simp only [Act.put]); (try simp only [List.setIfInBounds_toArray, List.set_cons_zero, List.set_cons_succ])
          refine wpAnyH_ready (rs := [15, 17]) (by kernel_rfl) (by simp) ?_
          refine AllReadyH.cons rfl (fun K hK => ?_) (AllReadyH.cons rfl (fun K hK => ?_) AllReadyH.nil)
          · as_aux_lemma =>
            have hcl := HIH.out u HUM.out wk g (d2.Ms L.length) (cx L.length) HEc.out (HTI.out wk HKc.out) HMQ.out
            go_simp
            refine hcl.mono ?_
            rintro e wkc ⟨cc, M2, rfl, hse, hsm, hsk, hst⟩
            have HKn := hide (HKc.out.trans hsk (fun _ _ e => e))
            have hSn : Sst p d.vb d.vt (.slice (some ⟨gu, 0, none⟩) d2.qs.length cu2) d2.qs b (off + L.length * 13) (cx L.length) wkc := hS.kp hsk HNP.out HNU.out HNB.out
            have HEn := hide hse
            have HMn : Hid (∀ x, M2 x → d2.Ms L.length x ∨ wd.heap.size ≤ x) := fun x hx => (hsm x hx).imp id (fun e => Nat.le_trans HKc.out.size e)
            have HTn := hide hst
            refine (Shut.out hK) _ _ hSn (fun hS2 => ?_)
            clear hK K hS HKc HEc hcl hse hsm hsk hst 
            have hS := hS2
            clear hS2 hSn
            (try simp only [Act.put]); (try simp only [List.setIfInBounds_toArray, List.set_cons_zero, List.set_cons_succ])
            have HKc := HKn
            have HEc := HEn
            have HMc := HMn
            have HTc := HTn
            clear HKn HEn HMn HTn
            refine heldStep 17 rfl (by kernel_rfl) (fun K hK => ?_)
            have HZn : Hid ((wkc.alloc (.cells zv 65)).heap[wkc.heap.size]? = some (.cells zv 65 (0, 0)) ∧ wd.heap.size ≤ wkc.heap.size) := ⟨heap_alloc_new wkc _, HKc.out.size⟩
            have HBA := hide (below_alloc4 wkc (.cells zv 65))
            have hSn : Sst p d.vb d.vt (.slice (some ⟨gu, 0, none⟩) d2.qs.length cu2) d2.qs b (off + L.length * 13) (cx L.length) (wkc.alloc (.cells zv 65)) := hS.kp (Kp.of_below (S := fun _ => False) HBA.out) (fun e => e) (fun _ _ e => e) (fun e => e)
            have HKn := hide (HKc.out.trans (Kp.of_below (S := d2.Ms L.length) HBA.out) (fun _ _ e => e))
            have HEn := hide (HEc.out.next HBA.out)
            have HTn := hide (HTc.out.kp (Kp.of_below (S := fun _ => False) HBA.out) (fun _ _ e => e))
            refine step_val18 rfl rfl zv rfl rfl ?_
            refine (Hid.out hK) _ (wkc.alloc (.cells zv 65)) hSn (fun hS2 => ?_)
            clear hK K hS HKc HEc HTc
            have hS := hS2
            clear hS2 hSn
            (try simp only [Act.put]); (try simp only [List.setIfInBounds_toArray, List.set_cons_zero, List.set_cons_succ])
            generalize hza : wkc.heap.size = za at *
            clear hza
            generalize wkc.alloc (.cells zv 65) = wkca at *
            have HKc := HKn
            have HEc := HEn
            have HZc := HZn
            have HTc := HTn
            clear HTn
            clear HKn HEn HZn HBA
            have HC13 := hide HTc.out.tin.size13
            have HCO : Hid (∀ v ∈ cc.toList, v.oneCell' = true) := fun v hv => by
              have h1 := HTc.out.tin.all1
              rw [Array.all_eq_true'] at h1
              exact h1 v (by simpa using hv)
            have HFV : Hid (wkca.ownsRow 0 65 13 (.slice av2 L.length cv2) L.length (vfl L)) := by
              have h := HKc.out.owns HS2.out.fv HNV.out
              rw [HVV.out] at h
              exact h
            refine heldStep 18 rfl (by kernel_rfl) (fun K hK => ?_)
            refine step_append_val8 rfl _ _ rfl 0 (.slice av2 L.length cv2) L.length (vfl L) rfl HFV.out za zv zv_one8 rfl HZc.out.1 (by have := HLN.out; omega) (Nat.zero_le _) (fun v5 w5 ho5 hg5 hq5 => ?_)
            obtain ⟨gi, c5, hv5, cur5, hcur5, hcs5⟩ : ∃ gi c5, v5 = .slice (some ⟨gi, 0, none⟩) (L.length + 1) c5 ∧ ∃ cur5, w5.heap[gi]? = some (.cells cur5 65 (0, 0)) ∧ (L.length + 1) * 13 ≤ cur5.size := by
              rcases ho5.2 with ⟨_, h0⟩ | ⟨gi, c5, cur5, e, _, h1, h2, _, h3, _⟩
              · omega
              · exact ⟨gi, c5, e, cur5, h1, by rw [h3]; exact Nat.mul_le_mul_right 13 h2⟩
            subst hv5
            have hk5 : Kp (fun r => d2.vv.ownBlock = some r) wkca w5 := (Kp.refl _ _).grown hg5 (fun _ _ h => by rw [HVV.out]; exact h)
            have hgi5 : d2.vv.ownBlock = some gi ∨ gi = wkca.heap.size := by
              rcases hq5 with e | e
              · exact .inl (by rw [HVV.out, ← e]; rfl)
              · injection e with e
                exact .inr e
            have HPUT := hide (HS2.out.put HQ2.out HG2.out HU2.out HKc.out HEc.out HMc.out HTc.out HC13.out hk5 ho5 hgi5 hcur5)
            have hS5 : Sst p d.vb d.vt (.slice (some ⟨gu, 0, none⟩) d2.qs.length cu2) d2.qs b (off + L.length * 13) (cx L.length) w5 := hS.kp hk5 HWP.out HWU.out HWB.out
            have HGP : Hid (gi ≠ p) := fun e => by
              rcases hgi5 with h | h
              · exact HWP.out (by rw [← e]; exact h)
              · have h1 := HKc.out.size
                have h2 := blk_lt HS2.out.fp
                omega
            have HGB : Hid (gi ≠ b) := fun e => by
              rcases hgi5 with h | h
              · exact HWB.out (by rw [← e]; exact h)
              · have h1 := HKc.out.size
                have h2 := HBL.out
                omega
            have HGU : Hid (∀ q, (Value.slice (some ⟨gu, 0, none⟩) d2.qs.length cu2).ownBlock = some q → ¬ q = gi) := fun q hq e => by
              rcases hgi5 with h | h
              · exact HWU.out q hq (by rw [e]; exact h)
              · have h1 := HKc.out.size
                have h2 := HUL.out q hq
                omega
            have HI5 : Hid ((Tryz.prog.info? 65).map (·.size) = some cc.size) := by show _ = _; rw [HC13.out]; exact infoV
            have HX5 : Hid (L.length * 13 + cc.size ≤ cur5.size) := by have := HC13.out; show _ ≤ _; omega
            have HCR := hide hcur5
            have HP5 := hide hS5.1
            have HIX : Hid ((((L.length : Nat) : Int) < ((L.length + 1 : Nat) : Int)) ∧ (L.length : Int) < (L.length : Int) + 1) := ⟨by omega, by omega⟩
            refine (Hid.out hK) _ _ hS5 (fun hS6 => ?_)
            clear hK K ho5 hg5 hq5 hk5 hgi5 hcs5 hcur5 hS hS5 HFV HKc HEc HMc HTc HZc
            have hS := hS6
            clear hS6
            (try simp only [Act.put]); (try simp only [List.setIfInBounds_toArray, List.set_cons_zero, List.set_cons_succ])
            refine heldTake 19 (.pointer (some ⟨gi, L.length * 13, none⟩)) rfl (by kernel_rfl) (by kernel_rfl) (by kernel_rfl) (fun _ _ _ h => h) rfl hS (fun wy hy => by have h0 := HIX.out.1; have h1 := HIX.out.2; first | (go_simp; done) | (go_simp; omega) | (go_simp; rfl)) ?_
            (try simp only [Act.put]); (try simp only [List.setIfInBounds_toArray, List.set_cons_zero, List.set_cons_succ])
            refine heldTake 21 _ rfl (by kernel_rfl) (by kernel_rfl) (by kernel_rfl) (fun _ _ _ h => h) rfl hS (fun wy hy => by first | (go_simp; done) | (go_simp; rfl) | rfl) ?_
            (try simp only [Act.put]); (try simp only [List.setIfInBounds_toArray, List.set_cons_zero, List.set_cons_succ])
            refine heldTake 22 _ rfl (by kernel_rfl) (by kernel_rfl) (by kernel_rfl) (fun _ _ _ h => h) rfl hS (fun wy hy => by first | (go_simp; done) | (go_simp; rfl) | rfl) ?_
            (try simp only [Act.put]); (try simp only [List.setIfInBounds_toArray, List.set_cons_zero, List.set_cons_succ])
            have hS4 : Sst p d.vb d.vt (.slice (some ⟨gu, 0, none⟩) d2.qs.length cu2) d2.qs b (off + L.length * 13) (cx L.length) (w5.setRow gi (splice cur5.toList (L.length * 13) cc.toList).toArray) := hS.kp (row_kp w5 gi _) (fun e => HGP.out e.symm) HGU.out (fun e => HGB.out e.symm)
            obtain ⟨v4a, hv4a⟩ := HP5.out
            obtain ⟨v4b, hv4b⟩ := hS4.1
            have c4a : w5.cell? ⟨p, 4, none⟩ = some v4a := blk_cell (j := 4) hv4a rfl
            have f4a : w5.frozen? ⟨p, 4, none⟩ = false := blk_frozen 4 hv4a
            have c4b : (w5.setRow gi (splice cur5.toList (L.length * 13) cc.toList).toArray).cell? ⟨p, 4, none⟩ = some v4b := blk_cell (j := 4) hv4b rfl
            have f4b : (w5.setRow gi (splice cur5.toList (L.length * 13) cc.toList).toArray).frozen? ⟨p, 4, none⟩ = false := blk_frozen 4 hv4b
            have HS4s : Hid (Sst p d.vb d.vt (.slice (some ⟨gu, 0, none⟩) d2.qs.length cu2) d2.qs b (off + L.length * 13) (cx L.length) ((w5.setRow gi (splice cur5.toList (L.length * 13) cc.toList).toArray).setCell ⟨p, 4, none⟩ (.slice (some ⟨gi, 0, none⟩) (L.length + 1) c5))) := hS4.set _ HBP.out HUP.out
            have HS5s : Hid (Sst p d.vb d.vt (.slice (some ⟨gu, 0, none⟩) d2.qs.length cu2) d2.qs b (off + L.length * 13) (cx L.length) (w5.setCell ⟨p, 4, none⟩ (.slice (some ⟨gi, 0, none⟩) (L.length + 1) c5))) := hS.set _ HBP.out HUP.out
            have HEQ := hide (row_cell_comm w5 p gi 4 (.slice (some ⟨gi, 0, none⟩) (L.length + 1) c5) (splice cur5.toList (L.length * 13) cc.toList).toArray HGP.out)
            have HCR7 : Hid ((w5.setCell ⟨p, 4, none⟩ (.slice (some ⟨gi, 0, none⟩) (L.length + 1) c5)).heap[gi]? = some (.cells cur5 65 (0, 0))) := blk_other _ _ HCR.out HGP.out
            clear hv4a hv4b
            refine wpAnyH_ready (rs := [20, 23]) (by kernel_rfl) (by simp) ?_
            refine AllReadyH.cons rfl (fun K hK => ?_) (AllReadyH.cons rfl (fun K hK => ?_) AllReadyH.nil)
            · as_aux_lemma =>
              refine step_storePart8 rfl rfl gi (L.length * 13) cur5 cc 65 rfl rfl HCR.out HI5.out HX5.out HCO.out ?_
              refine (Shut.out hK) _ _ hS4 (fun hS6 => ?_)
              clear hK K hS hS4 c4a f4a
              (try simp only [Act.put])
              generalize w5.setRow gi (splice cur5.toList (L.length * 13) cc.toList).toArray = w6 at *
              refine heldStep 23 rfl (by kernel_rfl) (fun K hK => ?_)
              go_simp
              refine (Hid.out hK) _ _ HS4s.out (fun hS7 => ?_)
              clear hK K hS6 c4b f4b
              (try simp only [Act.put])
              refine heldDone (by kernel_rfl) ?_
              clear hS7
              have HFIN : Hid (∃ d' L', L'.length = L.length + 1 ∧ Svs w (w6.setCell ⟨p, 4, none⟩ (.slice (some ⟨gi, 0, none⟩) (L.length + 1) c5)) p d d' ts L') := ⟨_, L ++ [cc], by rw [List.length_append, List.length_singleton], HPUT.out⟩
              clear HPUT
              go_wp2_with fail
              go_roundw
              case rel => exact ⟨L.length + 1, by have := HLT.out; omega, by go_num, HFIN⟩
              case measure => have := HLT.out; simp [intOf]; omega
            · as_aux_lemma =>
              go_simp
              refine (Shut.out hK) _ _ HS5s.out (fun hS6 => ?_)
              clear hK K hS hS4 c4a f4a c4b f4b
              (try simp only [Act.put])
              refine heldStep 20 rfl (by kernel_rfl) (fun K hK => ?_)
              refine step_storePart8 rfl rfl gi (L.length * 13) cur5 cc 65 rfl rfl HCR7.out HI5.out HX5.out HCO.out ?_
              refine (Hid.out hK) _ _ (by rw [HEQ.out]; exact HS4s.out) (fun hS7 => ?_)
              clear hK K hS6
              (try simp only [Act.put])
              refine heldDone (by kernel_rfl) ?_
              clear hS7
              have HFIN : Hid (∃ d' L', L'.length = L.length + 1 ∧ Svs w ((w5.setCell ⟨p, 4, none⟩ (.slice (some ⟨gi, 0, none⟩) (L.length + 1) c5)).setRow gi (splice cur5.toList (L.length * 13) cc.toList).toArray) p d d' ts L') := ⟨_, L ++ [cc], by rw [List.length_append, List.length_singleton], by rw [HEQ.out]; exact HPUT.out⟩
              clear HPUT
              go_wp2_with fail
              go_roundw
              case rel => exact ⟨L.length + 1, by have := HLT.out; omega, by go_num, HFIN⟩
              case measure => have := HLT.out; simp [intOf]; omega
          · as_aux_lemma =>
            have HZn : Hid ((wk.alloc (.cells zv 65)).heap[wk.heap.size]? = some (.cells zv 65 (0, 0)) ∧ wd.heap.size ≤ wk.heap.size) := ⟨heap_alloc_new wk _, HKc.out.size⟩
            have HBA := hide (below_alloc4 wk (.cells zv 65))
            have hSn : Sst p d.vb d.vt (.slice (some ⟨gu, 0, none⟩) d2.qs.length cu2) d2.qs b (off + L.length * 13) (cx L.length) (wk.alloc (.cells zv 65)) := hS.kp (Kp.of_below (S := fun _ => False) HBA.out) (fun e => e) (fun _ _ e => e) (fun e => e)
            have HKn := hide (HKc.out.trans (Kp.of_below (S := d2.Ms L.length) HBA.out) (fun _ _ e => e))
            have HEn := hide (HEc.out.next HBA.out)
            refine step_val18 rfl rfl zv rfl rfl ?_
            refine (Shut.out hK) _ (wk.alloc (.cells zv 65)) hSn (fun hS2 => ?_)
            clear hK K hS HKc HEc 
            have hS := hS2
            clear hS2 hSn
            (try simp only [Act.put]); (try simp only [List.setIfInBounds_toArray])
            generalize hza : wk.heap.size = za at *
            clear hza
            generalize wk.alloc (.cells zv 65) = wka at *
            have HKc := HKn
            have HEc := HEn
            have HZc := HZn
            clear HKn HEn HZn HBA
            refine heldStep 15 rfl (by kernel_rfl) (fun K hK => ?_)
            have hcl := HIH.out u HUM.out wka g (d2.Ms L.length) (cx L.length) HEc.out (HTI.out wka HKc.out) HMQ.out
            go_simp
            refine hcl.mono ?_
            rintro e wkac ⟨cc, M2, rfl, hse, hsm, hsk, hst⟩
            have HKn := hide (HKc.out.trans hsk (fun _ _ e => e))
            have hSn : Sst p d.vb d.vt (.slice (some ⟨gu, 0, none⟩) d2.qs.length cu2) d2.qs b (off + L.length * 13) (cx L.length) wkac := hS.kp hsk HNP.out HNU.out HNB.out
            have HEn := hide hse
            have HMn : Hid (∀ x, M2 x → d2.Ms L.length x ∨ wd.heap.size ≤ x) := fun x hx => (hsm x hx).imp id (fun e => Nat.le_trans HKc.out.size e)
            have HTn := hide hst
            have HZn : Hid (wkac.heap[za]? = some (.cells zv 65 (0, 0)) ∧ wd.heap.size ≤ za) := ⟨(hsk.block _ (blk_lt HZc.out.1) (fun e => by have h1 := HS2.out.lt HQ2.out e; have h2 := HZc.out.2; omega)).trans HZc.out.1, HZc.out.2⟩
            refine (Hid.out hK) _ _ hSn (fun hS2 => ?_)
            clear hK K hS HKc HEc hcl hse hsm hsk hst HZc
            have hS := hS2
            clear hS2 hSn
            (try simp only [Act.put]); (try simp only [List.setIfInBounds_toArray, List.set_cons_zero, List.set_cons_succ])
            have HKc := HKn
            have HEc := HEn
            have HMc := HMn
            have HTc := HTn
            have HZc := HZn
            clear HZn
            clear HKn HEn HMn HTn
            have HC13 := hide HTc.out.tin.size13
            have HCO : Hid (∀ v ∈ cc.toList, v.oneCell' = true) := fun v hv => by
              have h1 := HTc.out.tin.all1
              rw [Array.all_eq_true'] at h1
              exact h1 v (by simpa using hv)
            have HFV : Hid (wkac.ownsRow 0 65 13 (.slice av2 L.length cv2) L.length (vfl L)) := by
              have h := HKc.out.owns HS2.out.fv HNV.out
              rw [HVV.out] at h
              exact h
            refine heldStep 18 rfl (by kernel_rfl) (fun K hK => ?_)
            refine step_append_val8 rfl _ _ rfl 0 (.slice av2 L.length cv2) L.length (vfl L) rfl HFV.out za zv zv_one8 rfl HZc.out.1 (by have := HLN.out; omega) (Nat.zero_le _) (fun v5 w5 ho5 hg5 hq5 => ?_)
            obtain ⟨gi, c5, hv5, cur5, hcur5, hcs5⟩ : ∃ gi c5, v5 = .slice (some ⟨gi, 0, none⟩) (L.length + 1) c5 ∧ ∃ cur5, w5.heap[gi]? = some (.cells cur5 65 (0, 0)) ∧ (L.length + 1) * 13 ≤ cur5.size := by
              rcases ho5.2 with ⟨_, h0⟩ | ⟨gi, c5, cur5, e, _, h1, h2, _, h3, _⟩
              · omega
              · exact ⟨gi, c5, e, cur5, h1, by rw [h3]; exact Nat.mul_le_mul_right 13 h2⟩
            subst hv5
            have hk5 : Kp (fun r => d2.vv.ownBlock = some r) wkac w5 := (Kp.refl _ _).grown hg5 (fun _ _ h => by rw [HVV.out]; exact h)
            have hgi5 : d2.vv.ownBlock = some gi ∨ gi = wkac.heap.size := by
              rcases hq5 with e | e
              · exact .inl (by rw [HVV.out, ← e]; rfl)
              · injection e with e
                exact .inr e
            have HPUT := hide (HS2.out.put HQ2.out HG2.out HU2.out HKc.out HEc.out HMc.out HTc.out HC13.out hk5 ho5 hgi5 hcur5)
            have hS5 : Sst p d.vb d.vt (.slice (some ⟨gu, 0, none⟩) d2.qs.length cu2) d2.qs b (off + L.length * 13) (cx L.length) w5 := hS.kp hk5 HWP.out HWU.out HWB.out
            have HGP : Hid (gi ≠ p) := fun e => by
              rcases hgi5 with h | h
              · exact HWP.out (by rw [← e]; exact h)
              · have h1 := HKc.out.size
                have h2 := blk_lt HS2.out.fp
                omega
            have HGB : Hid (gi ≠ b) := fun e => by
              rcases hgi5 with h | h
              · exact HWB.out (by rw [← e]; exact h)
              · have h1 := HKc.out.size
                have h2 := HBL.out
                omega
            have HGU : Hid (∀ q, (Value.slice (some ⟨gu, 0, none⟩) d2.qs.length cu2).ownBlock = some q → ¬ q = gi) := fun q hq e => by
              rcases hgi5 with h | h
              · exact HWU.out q hq (by rw [e]; exact h)
              · have h1 := HKc.out.size
                have h2 := HUL.out q hq
                omega
            have HI5 : Hid ((Tryz.prog.info? 65).map (·.size) = some cc.size) := by show _ = _; rw [HC13.out]; exact infoV
            have HX5 : Hid (L.length * 13 + cc.size ≤ cur5.size) := by have := HC13.out; show _ ≤ _; omega
            have HCR := hide hcur5
            have HP5 := hide hS5.1
            have HIX : Hid ((((L.length : Nat) : Int) < ((L.length + 1 : Nat) : Int)) ∧ (L.length : Int) < (L.length : Int) + 1) := ⟨by omega, by omega⟩
            refine (Hid.out hK) _ _ hS5 (fun hS6 => ?_)
            clear hK K ho5 hg5 hq5 hk5 hgi5 hcs5 hcur5 hS hS5 HFV HKc HEc HMc HTc HZc
            have hS := hS6
            clear hS6
            (try simp only [Act.put]); (try simp only [List.setIfInBounds_toArray, List.set_cons_zero, List.set_cons_succ])
            refine heldTake 19 (.pointer (some ⟨gi, L.length * 13, none⟩)) rfl (by kernel_rfl) (by kernel_rfl) (by kernel_rfl) (fun _ _ _ h => h) rfl hS (fun wy hy => by have h0 := HIX.out.1; have h1 := HIX.out.2; first | (go_simp; done) | (go_simp; omega) | (go_simp; rfl)) ?_
            (try simp only [Act.put]); (try simp only [List.setIfInBounds_toArray, List.set_cons_zero, List.set_cons_succ])
            refine heldTake 21 _ rfl (by kernel_rfl) (by kernel_rfl) (by kernel_rfl) (fun _ _ _ h => h) rfl hS (fun wy hy => by first | (go_simp; done) | (go_simp; rfl) | rfl) ?_
            (try simp only [Act.put]); (try simp only [List.setIfInBounds_toArray, List.set_cons_zero, List.set_cons_succ])
            refine heldTake 22 _ rfl (by kernel_rfl) (by kernel_rfl) (by kernel_rfl) (fun _ _ _ h => h) rfl hS (fun wy hy => by first | (go_simp; done) | (go_simp; rfl) | rfl) ?_
            (try simp only [Act.put]); (try simp only [List.setIfInBounds_toArray, List.set_cons_zero, List.set_cons_succ])
            have hS4 : Sst p d.vb d.vt (.slice (some ⟨gu, 0, none⟩) d2.qs.length cu2) d2.qs b (off + L.length * 13) (cx L.length) (w5.setRow gi (splice cur5.toList (L.length * 13) cc.toList).toArray) := hS.kp (row_kp w5 gi _) (fun e => HGP.out e.symm) HGU.out (fun e => HGB.out e.symm)
            obtain ⟨v4a, hv4a⟩ := HP5.out
            obtain ⟨v4b, hv4b⟩ := hS4.1
            have c4a : w5.cell? ⟨p, 4, none⟩ = some v4a := blk_cell (j := 4) hv4a rfl
            have f4a : w5.frozen? ⟨p, 4, none⟩ = false := blk_frozen 4 hv4a
            have c4b : (w5.setRow gi (splice cur5.toList (L.length * 13) cc.toList).toArray).cell? ⟨p, 4, none⟩ = some v4b := blk_cell (j := 4) hv4b rfl
            have f4b : (w5.setRow gi (splice cur5.toList (L.length * 13) cc.toList).toArray).frozen? ⟨p, 4, none⟩ = false := blk_frozen 4 hv4b
            have HS4s : Hid (Sst p d.vb d.vt (.slice (some ⟨gu, 0, none⟩) d2.qs.length cu2) d2.qs b (off + L.length * 13) (cx L.length) ((w5.setRow gi (splice cur5.toList (L.length * 13) cc.toList).toArray).setCell ⟨p, 4, none⟩ (.slice (some ⟨gi, 0, none⟩) (L.length + 1) c5))) := hS4.set _ HBP.out HUP.out
            have HS5s : Hid (Sst p d.vb d.vt (.slice (some ⟨gu, 0, none⟩) d2.qs.length cu2) d2.qs b (off + L.length * 13) (cx L.length) (w5.setCell ⟨p, 4, none⟩ (.slice (some ⟨gi, 0, none⟩) (L.length + 1) c5))) := hS.set _ HBP.out HUP.out
            have HEQ := hide (row_cell_comm w5 p gi 4 (.slice (some ⟨gi, 0, none⟩) (L.length + 1) c5) (splice cur5.toList (L.length * 13) cc.toList).toArray HGP.out)
            have HCR7 : Hid ((w5.setCell ⟨p, 4, none⟩ (.slice (some ⟨gi, 0, none⟩) (L.length + 1) c5)).heap[gi]? = some (.cells cur5 65 (0, 0))) := blk_other _ _ HCR.out HGP.out
            clear hv4a hv4b
            refine wpAnyH_ready (rs := [20, 23]) (by kernel_rfl) (by simp) ?_
            refine AllReadyH.cons rfl (fun K hK => ?_) (AllReadyH.cons rfl (fun K hK => ?_) AllReadyH.nil)
            · as_aux_lemma =>
              refine step_storePart8 rfl rfl gi (L.length * 13) cur5 cc 65 rfl rfl HCR.out HI5.out HX5.out HCO.out ?_
              refine (Shut.out hK) _ _ hS4 (fun hS6 => ?_)
              clear hK K hS hS4 c4a f4a
              (try simp only [Act.put])
              generalize w5.setRow gi (splice cur5.toList (L.length * 13) cc.toList).toArray = w6 at *
              refine heldStep 23 rfl (by kernel_rfl) (fun K hK => ?_)
              go_simp
              refine (Hid.out hK) _ _ HS4s.out (fun hS7 => ?_)
              clear hK K hS6 c4b f4b
              (try simp only [Act.put])
              refine heldDone (by kernel_rfl) ?_
              clear hS7
              have HFIN : Hid (∃ d' L', L'.length = L.length + 1 ∧ Svs w (w6.setCell ⟨p, 4, none⟩ (.slice (some ⟨gi, 0, none⟩) (L.length + 1) c5)) p d d' ts L') := ⟨_, L ++ [cc], by rw [List.length_append, List.length_singleton], HPUT.out⟩
              clear HPUT
              go_wp2_with fail
              go_roundw
              case rel => exact ⟨L.length + 1, by have := HLT.out; omega, by go_num, HFIN⟩
              case measure => have := HLT.out; simp [intOf]; omega
            · as_aux_lemma =>
              go_simp
              refine (Shut.out hK) _ _ HS5s.out (fun hS6 => ?_)
              clear hK K hS hS4 c4a f4a c4b f4b
              (try simp only [Act.put])
              refine heldStep 20 rfl (by kernel_rfl) (fun K hK => ?_)
              refine step_storePart8 rfl rfl gi (L.length * 13) cur5 cc 65 rfl rfl HCR7.out HI5.out HX5.out HCO.out ?_
              refine (Hid.out hK) _ _ (by rw [HEQ.out]; exact HS4s.out) (fun hS7 => ?_)
              clear hK K hS6
              (try simp only [Act.put])
              refine heldDone (by kernel_rfl) ?_
              clear hS7
              have HFIN : Hid (∃ d' L', L'.length = L.length + 1 ∧ Svs w ((w5.setCell ⟨p, 4, none⟩ (.slice (some ⟨gi, 0, none⟩) (L.length + 1) c5)).setRow gi (splice cur5.toList (L.length * 13) cc.toList).toArray) p d d' ts L') := ⟨_, L ++ [cc], by rw [List.length_append, List.length_singleton], by rw [HEQ.out]; exact HPUT.out⟩
              clear HPUT
              go_wp2_with fail
              go_roundw
              case rel => exact ⟨L.length + 1, by have := HLT.out; omega, by go_num, HFIN⟩
              case measure => have := HLT.out; simp [intOf]; omega
        · as_aux_lemma =>
          have hcl := HIH.out u HUM.out wk g (d2.Ms L.length) (cx L.length) HEc.out (HTI.out wk HKc.out) HMQ.out
          go_simp
          refine hcl.mono ?_
          rintro e wkc ⟨cc, M2, rfl, hse, hsm, hsk, hst⟩
          have HKn := hide (HKc.out.trans hsk (fun _ _ e => e))
          have hSn : Sst p d.vb d.vt (.slice (some ⟨gu, 0, none⟩) d2.qs.length cu2) d2.qs b (off + L.length * 13) (cx L.length) wkc := hS.kp hsk HNP.out HNU.out HNB.out
          have HEn := hide hse
          have HMn : Hid (∀ x, M2 x → d2.Ms L.length x ∨ wd.heap.size ≤ x) := fun x hx => (hsm x hx).imp id (fun e => Nat.le_trans HKc.out.size e)
          have HTn := hide hst
          refine (Shut.out hK) _ _ hSn (fun hS2 => ?_)
          clear hK K hS HKc HEc hcl hse hsm hsk hst 
          have hS := hS2
          clear hS2 hSn
          (try simp only [Act.put]); (try simp only [List.setIfInBounds_toArray, List.set_cons_zero, List.set_cons_succ])
          have HKc := HKn
          have HEc := HEn
          have HMc := HMn
          have HTc := HTn
          clear HKn HEn HMn HTn
          refine wpAnyH_ready (rs := [3, 17]) (by kernel_rfl) (by simp) ?_
          refine AllReadyH.cons rfl (fun K hK => ?_) (AllReadyH.cons rfl (fun K hK => ?_) AllReadyH.nil)
          · as_aux_lemma =>
            have x4 : wkc.cell? ⟨p, 4, none⟩ = some (.slice av2 L.length cv2) := HP4.out wkc HKc.out
            go_simp
            refine (Shut.out hK) _ _ hS (fun hS2 => ?_)
            clear hK K hS2 x4
            (try simp only [Act.put]); (try simp only [List.setIfInBounds_toArray, List.set_cons_zero, List.set_cons_succ])
            refine heldTake 16 _ rfl (by kernel_rfl) (by kernel_rfl) (by kernel_rfl) (fun _ _ _ h => h) rfl hS (fun wy hy => by first | (go_simp; done) | (go_simp; rfl) | rfl) ?_
            (try simp only [Act.put]); (try simp only [List.setIfInBounds_toArray, List.set_cons_zero, List.set_cons_succ])
            refine heldStep 17 rfl (by kernel_rfl) (fun K hK => ?_)
            have HZn : Hid ((wkc.alloc (.cells zv 65)).heap[wkc.heap.size]? = some (.cells zv 65 (0, 0)) ∧ wd.heap.size ≤ wkc.heap.size) := ⟨heap_alloc_new wkc _, HKc.out.size⟩
            have HBA := hide (below_alloc4 wkc (.cells zv 65))
            have hSn : Sst p d.vb d.vt (.slice (some ⟨gu, 0, none⟩) d2.qs.length cu2) d2.qs b (off + L.length * 13) (cx L.length) (wkc.alloc (.cells zv 65)) := hS.kp (Kp.of_below (S := fun _ => False) HBA.out) (fun e => e) (fun _ _ e => e) (fun e => e)
            have HKn := hide (HKc.out.trans (Kp.of_below (S := d2.Ms L.length) HBA.out) (fun _ _ e => e))
            have HEn := hide (HEc.out.next HBA.out)
            have HTn := hide (HTc.out.kp (Kp.of_below (S := fun _ => False) HBA.out) (fun _ _ e => e))
            refine step_val18 rfl rfl zv rfl rfl ?_
            refine (Hid.out hK) _ (wkc.alloc (.cells zv 65)) hSn (fun hS2 => ?_)
            clear hK K hS HKc HEc HTc
            have hS := hS2
            clear hS2 hSn
            (try simp only [Act.put]); (try simp only [List.setIfInBounds_toArray, List.set_cons_zero, List.set_cons_succ])
            generalize hza : wkc.heap.size = za at *
            clear hza
            generalize wkc.alloc (.cells zv 65) = wkca at *
            have HKc := HKn
            have HEc := HEn
            have HZc := HZn
            have HTc := HTn
            clear HTn
            clear HKn HEn HZn HBA
            have HC13 := hide HTc.out.tin.size13
            have HCO : Hid (∀ v ∈ cc.toList, v.oneCell' = true) := fun v hv => by
              have h1 := HTc.out.tin.all1
              rw [Array.all_eq_true'] at h1
              exact h1 v (by simpa using hv)
            have HFV : Hid (wkca.ownsRow 0 65 13 (.slice av2 L.length cv2) L.length (vfl L)) := by
              have h := HKc.out.owns HS2.out.fv HNV.out
              rw [HVV.out] at h
              exact h
            refine heldStep 18 rfl (by kernel_rfl) (fun K hK => ?_)
            refine step_append_val8 rfl _ _ rfl 0 (.slice av2 L.length cv2) L.length (vfl L) rfl HFV.out za zv zv_one8 rfl HZc.out.1 (by have := HLN.out; omega) (Nat.zero_le _) (fun v5 w5 ho5 hg5 hq5 => ?_)
            obtain ⟨gi, c5, hv5, cur5, hcur5, hcs5⟩ : ∃ gi c5, v5 = .slice (some ⟨gi, 0, none⟩) (L.length + 1) c5 ∧ ∃ cur5, w5.heap[gi]? = some (.cells cur5 65 (0, 0)) ∧ (L.length + 1) * 13 ≤ cur5.size := by
              rcases ho5.2 with ⟨_, h0⟩ | ⟨gi, c5, cur5, e, _, h1, h2, _, h3, _⟩
              · omega
              · exact ⟨gi, c5, e, cur5, h1, by rw [h3]; exact Nat.mul_le_mul_right 13 h2⟩
            subst hv5
            have hk5 : Kp (fun r => d2.vv.ownBlock = some r) wkca w5 := (Kp.refl _ _).grown hg5 (fun _ _ h => by rw [HVV.out]; exact h)
            have hgi5 : d2.vv.ownBlock = some gi ∨ gi = wkca.heap.size := by
              rcases hq5 with e | e
              · exact .inl (by rw [HVV.out, ← e]; rfl)
              · injection e with e
                exact .inr e
            have HPUT := hide (HS2.out.put HQ2.out HG2.out HU2.out HKc.out HEc.out HMc.out HTc.out HC13.out hk5 ho5 hgi5 hcur5)
            have hS5 : Sst p d.vb d.vt (.slice (some ⟨gu, 0, none⟩) d2.qs.length cu2) d2.qs b (off + L.length * 13) (cx L.length) w5 := hS.kp hk5 HWP.out HWU.out HWB.out
            have HGP : Hid (gi ≠ p) := fun e => by
              rcases hgi5 with h | h
              · exact HWP.out (by rw [← e]; exact h)
              · have h1 := HKc.out.size
                have h2 := blk_lt HS2.out.fp
                omega
            have HGB : Hid (gi ≠ b) := fun e => by
              rcases hgi5 with h | h
              · exact HWB.out (by rw [← e]; exact h)
              · have h1 := HKc.out.size
                have h2 := HBL.out
                omega
            have HGU : Hid (∀ q, (Value.slice (some ⟨gu, 0, none⟩) d2.qs.length cu2).ownBlock = some q → ¬ q = gi) := fun q hq e => by
              rcases hgi5 with h | h
              · exact HWU.out q hq (by rw [e]; exact h)
              · have h1 := HKc.out.size
                have h2 := HUL.out q hq
                omega
            have HI5 : Hid ((Tryz.prog.info? 65).map (·.size) = some cc.size) := by show _ = _; rw [HC13.out]; exact infoV
            have HX5 : Hid (L.length * 13 + cc.size ≤ cur5.size) := by have := HC13.out; show _ ≤ _; omega
            have HCR := hide hcur5
            have HP5 := hide hS5.1
            have HIX : Hid ((((L.length : Nat) : Int) < ((L.length + 1 : Nat) : Int)) ∧ (L.length : Int) < (L.length : Int) + 1) := ⟨by omega, by omega⟩
            refine (Hid.out hK) _ _ hS5 (fun hS6 => ?_)
            clear hK K ho5 hg5 hq5 hk5 hgi5 hcs5 hcur5 hS hS5 HFV HKc HEc HMc HTc HZc
            have hS := hS6
            clear hS6
            (try simp only [Act.put]); (try simp only [List.setIfInBounds_toArray, List.set_cons_zero, List.set_cons_succ])
            refine heldTake 19 (.pointer (some ⟨gi, L.length * 13, none⟩)) rfl (by kernel_rfl) (by kernel_rfl) (by kernel_rfl) (fun _ _ _ h => h) rfl hS (fun wy hy => by have h0 := HIX.out.1; have h1 := HIX.out.2; first | (go_simp; done) | (go_simp; omega) | (go_simp; rfl)) ?_
            (try simp only [Act.put]); (try simp only [List.setIfInBounds_toArray, List.set_cons_zero, List.set_cons_succ])
            refine heldTake 21 _ rfl (by kernel_rfl) (by kernel_rfl) (by kernel_rfl) (fun _ _ _ h => h) rfl hS (fun wy hy => by first | (go_simp; done) | (go_simp; rfl) | rfl) ?_
            (try simp only [Act.put]); (try simp only [List.setIfInBounds_toArray, List.set_cons_zero, List.set_cons_succ])
            refine heldTake 22 _ rfl (by kernel_rfl) (by kernel_rfl) (by kernel_rfl) (fun _ _ _ h => h) rfl hS (fun wy hy => by first | (go_simp; done) | (go_simp; rfl) | rfl) ?_
            (try simp only [Act.put]); (try simp only [List.setIfInBounds_toArray, List.set_cons_zero, List.set_cons_succ])
            have hS4 : Sst p d.vb d.vt (.slice (some ⟨gu, 0, none⟩) d2.qs.length cu2) d2.qs b (off + L.length * 13) (cx L.length) (w5.setRow gi (splice cur5.toList (L.length * 13) cc.toList).toArray) := hS.kp (row_kp w5 gi _) (fun e => HGP.out e.symm) HGU.out (fun e => HGB.out e.symm)
            obtain ⟨v4a, hv4a⟩ := HP5.out
            obtain ⟨v4b, hv4b⟩ := hS4.1
            have c4a : w5.cell? ⟨p, 4, none⟩ = some v4a := blk_cell (j := 4) hv4a rfl
            have f4a : w5.frozen? ⟨p, 4, none⟩ = false := blk_frozen 4 hv4a
            have c4b : (w5.setRow gi (splice cur5.toList (L.length * 13) cc.toList).toArray).cell? ⟨p, 4, none⟩ = some v4b := blk_cell (j := 4) hv4b rfl
            have f4b : (w5.setRow gi (splice cur5.toList (L.length * 13) cc.toList).toArray).frozen? ⟨p, 4, none⟩ = false := blk_frozen 4 hv4b
            have HS4s : Hid (Sst p d.vb d.vt (.slice (some ⟨gu, 0, none⟩) d2.qs.length cu2) d2.qs b (off + L.length * 13) (cx L.length) ((w5.setRow gi (splice cur5.toList (L.length * 13) cc.toList).toArray).setCell ⟨p, 4, none⟩ (.slice (some ⟨gi, 0, none⟩) (L.length + 1) c5))) := hS4.set _ HBP.out HUP.out
            have HS5s : Hid (Sst p d.vb d.vt (.slice (some ⟨gu, 0, none⟩) d2.qs.length cu2) d2.qs b (off + L.length * 13) (cx L.length) (w5.setCell ⟨p, 4, none⟩ (.slice (some ⟨gi, 0, none⟩) (L.length + 1) c5))) := hS.set _ HBP.out HUP.out
            have HEQ := hide (row_cell_comm w5 p gi 4 (.slice (some ⟨gi, 0, none⟩) (L.length + 1) c5) (splice cur5.toList (L.length * 13) cc.toList).toArray HGP.out)
            have HCR7 : Hid ((w5.setCell ⟨p, 4, none⟩ (.slice (some ⟨gi, 0, none⟩) (L.length + 1) c5)).heap[gi]? = some (.cells cur5 65 (0, 0))) := blk_other _ _ HCR.out HGP.out
            clear hv4a hv4b
            refine wpAnyH_ready (rs := [20, 23]) (by kernel_rfl) (by simp) ?_
            refine AllReadyH.cons rfl (fun K hK => ?_) (AllReadyH.cons rfl (fun K hK => ?_) AllReadyH.nil)
            · as_aux_lemma =>
              refine step_storePart8 rfl rfl gi (L.length * 13) cur5 cc 65 rfl rfl HCR.out HI5.out HX5.out HCO.out ?_
              refine (Shut.out hK) _ _ hS4 (fun hS6 => ?_)
              clear hK K hS hS4 c4a f4a
              (try simp only [Act.put])
              generalize w5.setRow gi (splice cur5.toList (L.length * 13) cc.toList).toArray = w6 at *
              refine heldStep 23 rfl (by kernel_rfl) (fun K hK => ?_)
              go_simp
              refine (Hid.out hK) _ _ HS4s.out (fun hS7 => ?_)
              clear hK K hS6 c4b f4b
              (try simp only [Act.put])
              refine heldDone (by kernel_rfl) ?_
              clear hS7
              have HFIN : Hid (∃ d' L', L'.length = L.length + 1 ∧ Svs w (w6.setCell ⟨p, 4, none⟩ (.slice (some ⟨gi, 0, none⟩) (L.length + 1) c5)) p d d' ts L') := ⟨_, L ++ [cc], by rw [List.length_append, List.length_singleton], HPUT.out⟩
              clear HPUT
              go_wp2_with fail
              go_roundw
              case rel => exact ⟨L.length + 1, by have := HLT.out; omega, by go_num, HFIN⟩
              case measure => have := HLT.out; simp [intOf]; omega
            · as_aux_lemma =>
              go_simp
              refine (Shut.out hK) _ _ HS5s.out (fun hS6 => ?_)
              clear hK K hS hS4 c4a f4a c4b f4b
              (try simp only [Act.put])
              refine heldStep 20 rfl (by kernel_rfl) (fun K hK => ?_)
              refine step_storePart8 rfl rfl gi (L.length * 13) cur5 cc 65 rfl rfl HCR7.out HI5.out HX5.out HCO.out ?_
              refine (Hid.out hK) _ _ (by rw [HEQ.out]; exact HS4s.out) (fun hS7 => ?_)
              clear hK K hS6
              (try simp only [Act.put])
              refine heldDone (by kernel_rfl) ?_
              clear hS7
              have HFIN : Hid (∃ d' L', L'.length = L.length + 1 ∧ Svs w ((w5.setCell ⟨p, 4, none⟩ (.slice (some ⟨gi, 0, none⟩) (L.length + 1) c5)).setRow gi (splice cur5.toList (L.length * 13) cc.toList).toArray) p d d' ts L') := ⟨_, L ++ [cc], by rw [List.length_append, List.length_singleton], by rw [HEQ.out]; exact HPUT.out⟩
              clear HPUT
              go_wp2_with fail
              go_roundw
              case rel => exact ⟨L.length + 1, by have := HLT.out; omega, by go_num, HFIN⟩
              case measure => have := HLT.out; simp [intOf]; omega
          · as_aux_lemma =>
            have HZn : Hid ((wkc.alloc (.cells zv 65)).heap[wkc.heap.size]? = some (.cells zv 65 (0, 0)) ∧ wd.heap.size ≤ wkc.heap.size) := ⟨heap_alloc_new wkc _, HKc.out.size⟩
            have HBA := hide (below_alloc4 wkc (.cells zv 65))
            have hSn : Sst p d.vb d.vt (.slice (some ⟨gu, 0, none⟩) d2.qs.length cu2) d2.qs b (off + L.length * 13) (cx L.length) (wkc.alloc (.cells zv 65)) := hS.kp (Kp.of_below (S := fun _ => False) HBA.out) (fun e => e) (fun _ _ e => e) (fun e => e)
            have HKn := hide (HKc.out.trans (Kp.of_below (S := d2.Ms L.length) HBA.out) (fun _ _ e => e))
            have HEn := hide (HEc.out.next HBA.out)
            have HTn := hide (HTc.out.kp (Kp.of_below (S := fun _ => False) HBA.out) (fun _ _ e => e))
            refine step_val18 rfl rfl zv rfl rfl ?_
            refine (Shut.out hK) _ (wkc.alloc (.cells zv 65)) hSn (fun hS2 => ?_)
            clear hK K hS HKc HEc HTc
            have hS := hS2
            clear hS2 hSn
            (try simp only [Act.put]); (try simp only [List.setIfInBounds_toArray])
            generalize hza : wkc.heap.size = za at *
            clear hza
            generalize wkc.alloc (.cells zv 65) = wkca at *
            have HKc := HKn
            have HEc := HEn
            have HZc := HZn
            have HTc := HTn
            clear HTn
            clear HKn HEn HZn HBA
            refine heldStep 3 rfl (by kernel_rfl) (fun K hK => ?_)
            have x4 : wkca.cell? ⟨p, 4, none⟩ = some (.slice av2 L.length cv2) := HP4.out wkca HKc.out
            go_simp
            refine (Hid.out hK) _ _ hS (fun hS2 => ?_)
            clear hK K hS2 x4
            (try simp only [Act.put]); (try simp only [List.setIfInBounds_toArray, List.set_cons_zero, List.set_cons_succ])
            refine heldTake 16 _ rfl (by kernel_rfl) (by kernel_rfl) (by kernel_rfl) (fun _ _ _ h => h) rfl hS (fun wy hy => by first | (go_simp; done) | (go_simp; rfl) | rfl) ?_
            (try simp only [Act.put]); (try simp only [List.setIfInBounds_toArray, List.set_cons_zero, List.set_cons_succ])
            have HC13 := hide HTc.out.tin.size13
            have HCO : Hid (∀ v ∈ cc.toList, v.oneCell' = true) := fun v hv => by
              have h1 := HTc.out.tin.all1
              rw [Array.all_eq_true'] at h1
              exact h1 v (by simpa using hv)
            have HFV : Hid (wkca.ownsRow 0 65 13 (.slice av2 L.length cv2) L.length (vfl L)) := by
              have h := HKc.out.owns HS2.out.fv HNV.out
              rw [HVV.out] at h
              exact h
            refine heldStep 18 rfl (by kernel_rfl) (fun K hK => ?_)
            refine step_append_val8 rfl _ _ rfl 0 (.slice av2 L.length cv2) L.length (vfl L) rfl HFV.out za zv zv_one8 rfl HZc.out.1 (by have := HLN.out; omega) (Nat.zero_le _) (fun v5 w5 ho5 hg5 hq5 => ?_)
            obtain ⟨gi, c5, hv5, cur5, hcur5, hcs5⟩ : ∃ gi c5, v5 = .slice (some ⟨gi, 0, none⟩) (L.length + 1) c5 ∧ ∃ cur5, w5.heap[gi]? = some (.cells cur5 65 (0, 0)) ∧ (L.length + 1) * 13 ≤ cur5.size := by
              rcases ho5.2 with ⟨_, h0⟩ | ⟨gi, c5, cur5, e, _, h1, h2, _, h3, _⟩
              · omega
              · exact ⟨gi, c5, e, cur5, h1, by rw [h3]; exact Nat.mul_le_mul_right 13 h2⟩
            subst hv5
            have hk5 : Kp (fun r => d2.vv.ownBlock = some r) wkca w5 := (Kp.refl _ _).grown hg5 (fun _ _ h => by rw [HVV.out]; exact h)
            have hgi5 : d2.vv.ownBlock = some gi ∨ gi = wkca.heap.size := by
              rcases hq5 with e | e
              · exact .inl (by rw [HVV.out, ← e]; rfl)
              · injection e with e
                exact .inr e
            have HPUT := hide (HS2.out.put HQ2.out HG2.out HU2.out HKc.out HEc.out HMc.out HTc.out HC13.out hk5 ho5 hgi5 hcur5)
            have hS5 : Sst p d.vb d.vt (.slice (some ⟨gu, 0, none⟩) d2.qs.length cu2) d2.qs b (off + L.length * 13) (cx L.length) w5 := hS.kp hk5 HWP.out HWU.out HWB.out
            have HGP : Hid (gi ≠ p) := fun e => by
              rcases hgi5 with h | h
              · exact HWP.out (by rw [← e]; exact h)
              · have h1 := HKc.out.size
                have h2 := blk_lt HS2.out.fp
                omega
            have HGB : Hid (gi ≠ b) := fun e => by
              rcases hgi5 with h | h
              · exact HWB.out (by rw [← e]; exact h)
              · have h1 := HKc.out.size
                have h2 := HBL.out
                omega
            have HGU : Hid (∀ q, (Value.slice (some ⟨gu, 0, none⟩) d2.qs.length cu2).ownBlock = some q → ¬ q = gi) := fun q hq e => by
              rcases hgi5 with h | h
              · exact HWU.out q hq (by rw [e]; exact h)
              · have h1 := HKc.out.size
                have h2 := HUL.out q hq
                omega
            have HI5 : Hid ((Tryz.prog.info? 65).map (·.size) = some cc.size) := by show _ = _; rw [HC13.out]; exact infoV
            have HX5 : Hid (L.length * 13 + cc.size ≤ cur5.size) := by have := HC13.out; show _ ≤ _; omega
            have HCR := hide hcur5
            have HP5 := hide hS5.1
            have HIX : Hid ((((L.length : Nat) : Int) < ((L.length + 1 : Nat) : Int)) ∧ (L.length : Int) < (L.length : Int) + 1) := ⟨by omega, by omega⟩
            refine (Hid.out hK) _ _ hS5 (fun hS6 => ?_)
            clear hK K ho5 hg5 hq5 hk5 hgi5 hcs5 hcur5 hS hS5 HFV HKc HEc HMc HTc HZc
            have hS := hS6
            clear hS6
            (try simp only [Act.put]); (try simp only [List.setIfInBounds_toArray, List.set_cons_zero, List.set_cons_succ])
            refine heldTake 19 (.pointer (some ⟨gi, L.length * 13, none⟩)) rfl (by kernel_rfl) (by kernel_rfl) (by kernel_rfl) (fun _ _ _ h => h) rfl hS (fun wy hy => by have h0 := HIX.out.1; have h1 := HIX.out.2; first | (go_simp; done) | (go_simp; omega) | (go_simp; rfl)) ?_
            (try simp only [Act.put]); (try simp only [List.setIfInBounds_toArray, List.set_cons_zero, List.set_cons_succ])
            refine heldTake 21 _ rfl (by kernel_rfl) (by kernel_rfl) (by kernel_rfl) (fun _ _ _ h => h) rfl hS (fun wy hy => by first | (go_simp; done) | (go_simp; rfl) | rfl) ?_
            (try simp only [Act.put]); (try simp only [List.setIfInBounds_toArray, List.set_cons_zero, List.set_cons_succ])
            refine heldTake 22 _ rfl (by kernel_rfl) (by kernel_rfl) (by kernel_rfl) (fun _ _ _ h => h) rfl hS (fun wy hy => by first | (go_simp; done) | (go_simp; rfl) | rfl) ?_
            (try simp only [Act.put]); (try simp only [List.setIfInBounds_toArray, List.set_cons_zero, List.set_cons_succ])
            have hS4 : Sst p d.vb d.vt (.slice (some ⟨gu, 0, none⟩) d2.qs.length cu2) d2.qs b (off + L.length * 13) (cx L.length) (w5.setRow gi (splice cur5.toList (L.length * 13) cc.toList).toArray) := hS.kp (row_kp w5 gi _) (fun e => HGP.out e.symm) HGU.out (fun e => HGB.out e.symm)
            obtain ⟨v4a, hv4a⟩ := HP5.out
            obtain ⟨v4b, hv4b⟩ := hS4.1
            have c4a : w5.cell? ⟨p, 4, none⟩ = some v4a := blk_cell (j := 4) hv4a rfl
            have f4a : w5.frozen? ⟨p, 4, none⟩ = false := blk_frozen 4 hv4a
            have c4b : (w5.setRow gi (splice cur5.toList (L.length * 13) cc.toList).toArray).cell? ⟨p, 4, none⟩ = some v4b := blk_cell (j := 4) hv4b rfl
            have f4b : (w5.setRow gi (splice cur5.toList (L.length * 13) cc.toList).toArray).frozen? ⟨p, 4, none⟩ = false := blk_frozen 4 hv4b
            have HS4s : Hid (Sst p d.vb d.vt (.slice (some ⟨gu, 0, none⟩) d2.qs.length cu2) d2.qs b (off + L.length * 13) (cx L.length) ((w5.setRow gi (splice cur5.toList (L.length * 13) cc.toList).toArray).setCell ⟨p, 4, none⟩ (.slice (some ⟨gi, 0, none⟩) (L.length + 1) c5))) := hS4.set _ HBP.out HUP.out
            have HS5s : Hid (Sst p d.vb d.vt (.slice (some ⟨gu, 0, none⟩) d2.qs.length cu2) d2.qs b (off + L.length * 13) (cx L.length) (w5.setCell ⟨p, 4, none⟩ (.slice (some ⟨gi, 0, none⟩) (L.length + 1) c5))) := hS.set _ HBP.out HUP.out
            have HEQ := hide (row_cell_comm w5 p gi 4 (.slice (some ⟨gi, 0, none⟩) (L.length + 1) c5) (splice cur5.toList (L.length * 13) cc.toList).toArray HGP.out)
            have HCR7 : Hid ((w5.setCell ⟨p, 4, none⟩ (.slice (some ⟨gi, 0, none⟩) (L.length + 1) c5)).heap[gi]? = some (.cells cur5 65 (0, 0))) := blk_other _ _ HCR.out HGP.out
            clear hv4a hv4b
            refine wpAnyH_ready (rs := [20, 23]) (by kernel_rfl) (by simp) ?_
            refine AllReadyH.cons rfl (fun K hK => ?_) (AllReadyH.cons rfl (fun K hK => ?_) AllReadyH.nil)
            · as_aux_lemma =>
              refine step_storePart8 rfl rfl gi (L.length * 13) cur5 cc 65 rfl rfl HCR.out HI5.out HX5.out HCO.out ?_
              refine (Shut.out hK) _ _ hS4 (fun hS6 => ?_)
              clear hK K hS hS4 c4a f4a
              (try simp only [Act.put])
              generalize w5.setRow gi (splice cur5.toList (L.length * 13) cc.toList).toArray = w6 at *
              refine heldStep 23 rfl (by kernel_rfl) (fun K hK => ?_)
              go_simp
              refine (Hid.out hK) _ _ HS4s.out (fun hS7 => ?_)
              clear hK K hS6 c4b f4b
              (try simp only [Act.put])
              refine heldDone (by kernel_rfl) ?_
              clear hS7
              have HFIN : Hid (∃ d' L', L'.length = L.length + 1 ∧ Svs w (w6.setCell ⟨p, 4, none⟩ (.slice (some ⟨gi, 0, none⟩) (L.length + 1) c5)) p d d' ts L') := ⟨_, L ++ [cc], by rw [List.length_append, List.length_singleton], HPUT.out⟩
              clear HPUT
              go_wp2_with fail
              go_roundw
              case rel => exact ⟨L.length + 1, by have := HLT.out; omega, by go_num, HFIN⟩
              case measure => have := HLT.out; simp [intOf]; omega
            · as_aux_lemma =>
              go_simp
              refine (Shut.out hK) _ _ HS5s.out (fun hS6 => ?_)
              clear hK K hS hS4 c4a f4a c4b f4b
              (try simp only [Act.put])
              refine heldStep 20 rfl (by kernel_rfl) (fun K hK => ?_)
              refine step_storePart8 rfl rfl gi (L.length * 13) cur5 cc 65 rfl rfl HCR7.out HI5.out HX5.out HCO.out ?_
              refine (Hid.out hK) _ _ (by rw [HEQ.out]; exact HS4s.out) (fun hS7 => ?_)
              clear hK K hS6
              (try simp only [Act.put])
              refine heldDone (by kernel_rfl) ?_
              clear hS7
              have HFIN : Hid (∃ d' L', L'.length = L.length + 1 ∧ Svs w ((w5.setCell ⟨p, 4, none⟩ (.slice (some ⟨gi, 0, none⟩) (L.length + 1) c5)).setRow gi (splice cur5.toList (L.length * 13) cc.toList).toArray) p d d' ts L') := ⟨_, L ++ [cc], by rw [List.length_append, List.length_singleton], by rw [HEQ.out]; exact HPUT.out⟩
              clear HPUT
              go_wp2_with fail
              go_roundw
              case rel => exact ⟨L.length + 1, by have := HLT.out; omega, by go_num, HFIN⟩
              case measure => have := HLT.out; simp [intOf]; omega
        · as_aux_lemma =>
          have HZn : Hid ((wk.alloc (.cells zv 65)).heap[wk.heap.size]? = some (.cells zv 65 (0, 0)) ∧ wd.heap.size ≤ wk.heap.size) := ⟨heap_alloc_new wk _, HKc.out.size⟩
          have HBA := hide (below_alloc4 wk (.cells zv 65))
          have hSn : Sst p d.vb d.vt (.slice (some ⟨gu, 0, none⟩) d2.qs.length cu2) d2.qs b (off + L.length * 13) (cx L.length) (wk.alloc (.cells zv 65)) := hS.kp (Kp.of_below (S := fun _ => False) HBA.out) (fun e => e) (fun _ _ e => e) (fun e => e)
          have HKn := hide (HKc.out.trans (Kp.of_below (S := d2.Ms L.length) HBA.out) (fun _ _ e => e))
          have HEn := hide (HEc.out.next HBA.out)
          refine step_val18 rfl rfl zv rfl rfl ?_
          refine (Shut.out hK) _ (wk.alloc (.cells zv 65)) hSn (fun hS2 => ?_)
          clear hK K hS HKc HEc 
          have hS := hS2
          clear hS2 hSn
          (try simp only [Act.put]); (try simp only [List.setIfInBounds_toArray])
          generalize hza : wk.heap.size = za at *
          clear hza
          generalize wk.alloc (.cells zv 65) = wka at *
          have HKc := HKn
          have HEc := HEn
          have HZc := HZn
          clear HKn HEn HZn HBA
          refine wpAnyH_ready (rs := [3, 15]) (by kernel_rfl) (by simp) ?_
          refine AllReadyH.cons rfl (fun K hK => ?_) (AllReadyH.cons rfl (fun K hK => ?_) AllReadyH.nil)
          · as_aux_lemma =>
            have x4 : wka.cell? ⟨p, 4, none⟩ = some (.slice av2 L.length cv2) := HP4.out wka HKc.out
            go_simp
            refine (Shut.out hK) _ _ hS (fun hS2 => ?_)
            clear hK K hS2 x4
            (try simp only [Act.put]); (try simp only [List.setIfInBounds_toArray, List.set_cons_zero, List.set_cons_succ])
            refine heldTake 16 _ rfl (by kernel_rfl) (by kernel_rfl) (by kernel_rfl) (fun _ _ _ h => h) rfl hS (fun wy hy => by first | (go_simp; done) | (go_simp; rfl) | rfl) ?_
            (try simp only [Act.put]); (try simp only [List.setIfInBounds_toArray, List.set_cons_zero, List.set_cons_succ])
            refine heldStep 15 rfl (by kernel_rfl) (fun K hK => ?_)
            have hcl := HIH.out u HUM.out wka g (d2.Ms L.length) (cx L.length) HEc.out (HTI.out wka HKc.out) HMQ.out
            go_simp
            refine hcl.mono ?_
            rintro e wkac ⟨cc, M2, rfl, hse, hsm, hsk, hst⟩
            have HKn := hide (HKc.out.trans hsk (fun _ _ e => e))
            have hSn : Sst p d.vb d.vt (.slice (some ⟨gu, 0, none⟩) d2.qs.length cu2) d2.qs b (off + L.length * 13) (cx L.length) wkac := hS.kp hsk HNP.out HNU.out HNB.out
            have HEn := hide hse
            have HMn : Hid (∀ x, M2 x → d2.Ms L.length x ∨ wd.heap.size ≤ x) := fun x hx => (hsm x hx).imp id (fun e => Nat.le_trans HKc.out.size e)
            have HTn := hide hst
            have HZn : Hid (wkac.heap[za]? = some (.cells zv 65 (0, 0)) ∧ wd.heap.size ≤ za) := ⟨(hsk.block _ (blk_lt HZc.out.1) (fun e => by have h1 := HS2.out.lt HQ2.out e; have h2 := HZc.out.2; omega)).trans HZc.out.1, HZc.out.2⟩
            refine (Hid.out hK) _ _ hSn (fun hS2 => ?_)
            clear hK K hS HKc HEc hcl hse hsm hsk hst HZc
            have hS := hS2
            clear hS2 hSn
            (try simp only [Act.put]); (try simp only [List.setIfInBounds_toArray, List.set_cons_zero, List.set_cons_succ])
            have HKc := HKn
            have HEc := HEn
            have HMc := HMn
            have HTc := HTn
            have HZc := HZn
            clear HZn
            clear HKn HEn HMn HTn
            have HC13 := hide HTc.out.tin.size13
            have HCO : Hid (∀ v ∈ cc.toList, v.oneCell' = true) := fun v hv => by
              have h1 := HTc.out.tin.all1
              rw [Array.all_eq_true'] at h1
              exact h1 v (by simpa using hv)
            have HFV : Hid (wkac.ownsRow 0 65 13 (.slice av2 L.length cv2) L.length (vfl L)) := by
              have h := HKc.out.owns HS2.out.fv HNV.out
              rw [HVV.out] at h
              exact h
            refine heldStep 18 rfl (by kernel_rfl) (fun K hK => ?_)
            refine step_append_val8 rfl _ _ rfl 0 (.slice av2 L.length cv2) L.length (vfl L) rfl HFV.out za zv zv_one8 rfl HZc.out.1 (by have := HLN.out; omega) (Nat.zero_le _) (fun v5 w5 ho5 hg5 hq5 => ?_)
            obtain ⟨gi, c5, hv5, cur5, hcur5, hcs5⟩ : ∃ gi c5, v5 = .slice (some ⟨gi, 0, none⟩) (L.length + 1) c5 ∧ ∃ cur5, w5.heap[gi]? = some (.cells cur5 65 (0, 0)) ∧ (L.length + 1) * 13 ≤ cur5.size := by
              rcases ho5.2 with ⟨_, h0⟩ | ⟨gi, c5, cur5, e, _, h1, h2, _, h3, _⟩
              · omega
              · exact ⟨gi, c5, e, cur5, h1, by rw [h3]; exact Nat.mul_le_mul_right 13 h2⟩
            subst hv5
            have hk5 : Kp (fun r => d2.vv.ownBlock = some r) wkac w5 := (Kp.refl _ _).grown hg5 (fun _ _ h => by rw [HVV.out]; exact h)
            have hgi5 : d2.vv.ownBlock = some gi ∨ gi = wkac.heap.size := by
              rcases hq5 with e | e
              · exact .inl (by rw [HVV.out, ← e]; rfl)
              · injection e with e
                exact .inr e
            have HPUT := hide (HS2.out.put HQ2.out HG2.out HU2.out HKc.out HEc.out HMc.out HTc.out HC13.out hk5 ho5 hgi5 hcur5)
            have hS5 : Sst p d.vb d.vt (.slice (some ⟨gu, 0, none⟩) d2.qs.length cu2) d2.qs b (off + L.length * 13) (cx L.length) w5 := hS.kp hk5 HWP.out HWU.out HWB.out
            have HGP : Hid (gi ≠ p) := fun e => by
              rcases hgi5 with h | h
              · exact HWP.out (by rw [← e]; exact h)
              · have h1 := HKc.out.size
                have h2 := blk_lt HS2.out.fp
                omega
            have HGB : Hid (gi ≠ b) := fun e => by
              rcases hgi5 with h | h
              · exact HWB.out (by rw [← e]; exact h)
              · have h1 := HKc.out.size
                have h2 := HBL.out
                omega
            have HGU : Hid (∀ q, (Value.slice (some ⟨gu, 0, none⟩) d2.qs.length cu2).ownBlock = some q → ¬ q = gi) := fun q hq e => by
              rcases hgi5 with h | h
              · exact HWU.out q hq (by rw [e]; exact h)
              · have h1 := HKc.out.size
                have h2 := HUL.out q hq
                omega
            have HI5 : Hid ((Tryz.prog.info? 65).map (·.size) = some cc.size) := by show _ = _; rw [HC13.out]; exact infoV
            have HX5 : Hid (L.length * 13 + cc.size ≤ cur5.size) := by have := HC13.out; show _ ≤ _; omega
            have HCR := hide hcur5
            have HP5 := hide hS5.1
            have HIX : Hid ((((L.length : Nat) : Int) < ((L.length + 1 : Nat) : Int)) ∧ (L.length : Int) < (L.length : Int) + 1) := ⟨by omega, by omega⟩
            refine (Hid.out hK) _ _ hS5 (fun hS6 => ?_)
            clear hK K ho5 hg5 hq5 hk5 hgi5 hcs5 hcur5 hS hS5 HFV HKc HEc HMc HTc HZc
            have hS := hS6
            clear hS6
            (try simp only [Act.put]); (try simp only [List.setIfInBounds_toArray, List.set_cons_zero, List.set_cons_succ])
            refine heldTake 19 (.pointer (some ⟨gi, L.length * 13, none⟩)) rfl (by kernel_rfl) (by kernel_rfl) (by kernel_rfl) (fun _ _ _ h => h) rfl hS (fun wy hy => by have h0 := HIX.out.1; have h1 := HIX.out.2; first | (go_simp; done) | (go_simp; omega) | (go_simp; rfl)) ?_
            (try simp only [Act.put]); (try simp only [List.setIfInBounds_toArray, List.set_cons_zero, List.set_cons_succ])
            refine heldTake 21 _ rfl (by kernel_rfl) (by kernel_rfl) (by kernel_rfl) (fun _ _ _ h => h) rfl hS (fun wy hy => by first | (go_simp; done) | (go_simp; rfl) | rfl) ?_
            (try simp only [Act.put]); (try simp only [List.setIfInBounds_toArray, List.set_cons_zero, List.set_cons_succ])
            refine heldTake 22 _ rfl (by kernel_rfl) (by kernel_rfl) (by kernel_rfl) (fun _ _ _ h => h) rfl hS (fun wy hy => by first | (go_simp; done) | (go_simp; rfl) | rfl) ?_
            (try simp only [Act.put]); (try simp only [List.setIfInBounds_toArray, List.set_cons_zero, List.set_cons_succ])
            have hS4 : Sst p d.vb d.vt (.slice (some ⟨gu, 0, none⟩) d2.qs.length cu2) d2.qs b (off + L.length * 13) (cx L.length) (w5.setRow gi (splice cur5.toList (L.length * 13) cc.toList).toArray) := hS.kp (row_kp w5 gi _) (fun e => HGP.out e.symm) HGU.out (fun e => HGB.out e.symm)
            obtain ⟨v4a, hv4a⟩ := HP5.out
            obtain ⟨v4b, hv4b⟩ := hS4.1
            have c4a : w5.cell? ⟨p, 4, none⟩ = some v4a := blk_cell (j := 4) hv4a rfl
            have f4a : w5.frozen? ⟨p, 4, none⟩ = false := blk_frozen 4 hv4a
            have c4b : (w5.setRow gi (splice cur5.toList (L.length * 13) cc.toList).toArray).cell? ⟨p, 4, none⟩ = some v4b := blk_cell (j := 4) hv4b rfl
            have f4b : (w5.setRow gi (splice cur5.toList (L.length * 13) cc.toList).toArray).frozen? ⟨p, 4, none⟩ = false := blk_frozen 4 hv4b
            have HS4s : Hid (Sst p d.vb d.vt (.slice (some ⟨gu, 0, none⟩) d2.qs.length cu2) d2.qs b (off + L.length * 13) (cx L.length) ((w5.setRow gi (splice cur5.toList (L.length * 13) cc.toList).toArray).setCell ⟨p, 4, none⟩ (.slice (some ⟨gi, 0, none⟩) (L.length + 1) c5))) := hS4.set _ HBP.out HUP.out
            have HS5s : Hid (Sst p d.vb d.vt (.slice (some ⟨gu, 0, none⟩) d2.qs.length cu2) d2.qs b (off + L.length * 13) (cx L.length) (w5.setCell ⟨p, 4, none⟩ (.slice (some ⟨gi, 0, none⟩) (L.length + 1) c5))) := hS.set _ HBP.out HUP.out
            have HEQ := hide (row_cell_comm w5 p gi 4 (.slice (some ⟨gi, 0, none⟩) (L.length + 1) c5) (splice cur5.toList (L.length * 13) cc.toList).toArray HGP.out)
            have HCR7 : Hid ((w5.setCell ⟨p, 4, none⟩ (.slice (some ⟨gi, 0, none⟩) (L.length + 1) c5)).heap[gi]? = some (.cells cur5 65 (0, 0))) := blk_other _ _ HCR.out HGP.out
            clear hv4a hv4b
            refine wpAnyH_ready (rs := [20, 23]) (by kernel_rfl) (by simp) ?_
            refine AllReadyH.cons rfl (fun K hK => ?_) (AllReadyH.cons rfl (fun K hK => ?_) AllReadyH.nil)
            · as_aux_lemma =>
              refine step_storePart8 rfl rfl gi (L.length * 13) cur5 cc 65 rfl rfl HCR.out HI5.out HX5.out HCO.out ?_
              refine (Shut.out hK) _ _ hS4 (fun hS6 => ?_)
              clear hK K hS hS4 c4a f4a
              (try simp only [Act.put])
              generalize w5.setRow gi (splice cur5.toList (L.length * 13) cc.toList).toArray = w6 at *
              refine heldStep 23 rfl (by kernel_rfl) (fun K hK => ?_)
              go_simp
              refine (Hid.out hK) _ _ HS4s.out (fun hS7 => ?_)
              clear hK K hS6 c4b f4b
              (try simp only [Act.put])
              refine heldDone (by kernel_rfl) ?_
              clear hS7
              have HFIN : Hid (∃ d' L', L'.length = L.length + 1 ∧ Svs w (w6.setCell ⟨p, 4, none⟩ (.slice (some ⟨gi, 0, none⟩) (L.length + 1) c5)) p d d' ts L') := ⟨_, L ++ [cc], by rw [List.length_append, List.length_singleton], HPUT.out⟩
              clear HPUT
              go_wp2_with fail
              go_roundw
              case rel => exact ⟨L.length + 1, by have := HLT.out; omega, by go_num, HFIN⟩
              case measure => have := HLT.out; simp [intOf]; omega
            · as_aux_lemma =>
              go_simp
              refine (Shut.out hK) _ _ HS5s.out (fun hS6 => ?_)
              clear hK K hS hS4 c4a f4a c4b f4b
              (try simp only [Act.put])
              refine heldStep 20 rfl (by kernel_rfl) (fun K hK => ?_)
              refine step_storePart8 rfl rfl gi (L.length * 13) cur5 cc 65 rfl rfl HCR7.out HI5.out HX5.out HCO.out ?_
              refine (Hid.out hK) _ _ (by rw [HEQ.out]; exact HS4s.out) (fun hS7 => ?_)
              clear hK K hS6
              (try simp only [Act.put])
              refine heldDone (by kernel_rfl) ?_
              clear hS7
              have HFIN : Hid (∃ d' L', L'.length = L.length + 1 ∧ Svs w ((w5.setCell ⟨p, 4, none⟩ (.slice (some ⟨gi, 0, none⟩) (L.length + 1) c5)).setRow gi (splice cur5.toList (L.length * 13) cc.toList).toArray) p d d' ts L') := ⟨_, L ++ [cc], by rw [List.length_append, List.length_singleton], by rw [HEQ.out]; exact HPUT.out⟩
              clear HPUT
              go_wp2_with fail
              go_roundw
              case rel => exact ⟨L.length + 1, by have := HLT.out; omega, by go_num, HFIN⟩
              case measure => have := HLT.out; simp [intOf]; omega
          · as_aux_lemma =>
            have hcl := HIH.out u HUM.out wka g (d2.Ms L.length) (cx L.length) HEc.out (HTI.out wka HKc.out) HMQ.out
            go_simp
            refine hcl.mono ?_
            rintro e wkac ⟨cc, M2, rfl, hse, hsm, hsk, hst⟩
            have HKn := hide (HKc.out.trans hsk (fun _ _ e => e))
            have hSn : Sst p d.vb d.vt (.slice (some ⟨gu, 0, none⟩) d2.qs.length cu2) d2.qs b (off + L.length * 13) (cx L.length) wkac := hS.kp hsk HNP.out HNU.out HNB.out
            have HEn := hide hse
            have HMn : Hid (∀ x, M2 x → d2.Ms L.length x ∨ wd.heap.size ≤ x) := fun x hx => (hsm x hx).imp id (fun e => Nat.le_trans HKc.out.size e)
            have HTn := hide hst
            have HZn : Hid (wkac.heap[za]? = some (.cells zv 65 (0, 0)) ∧ wd.heap.size ≤ za) := ⟨(hsk.block _ (blk_lt HZc.out.1) (fun e => by have h1 := HS2.out.lt HQ2.out e; have h2 := HZc.out.2; omega)).trans HZc.out.1, HZc.out.2⟩
            refine (Shut.out hK) _ _ hSn (fun hS2 => ?_)
            clear hK K hS HKc HEc hcl hse hsm hsk hst HZc
            have hS := hS2
            clear hS2 hSn
            (try simp only [Act.put]); (try simp only [List.setIfInBounds_toArray, List.set_cons_zero, List.set_cons_succ])
            have HKc := HKn
            have HEc := HEn
            have HMc := HMn
            have HTc := HTn
            have HZc := HZn
            clear HZn
            clear HKn HEn HMn HTn
            refine heldStep 3 rfl (by kernel_rfl) (fun K hK => ?_)
            have x4 : wkac.cell? ⟨p, 4, none⟩ = some (.slice av2 L.length cv2) := HP4.out wkac HKc.out
            go_simp
            refine (Hid.out hK) _ _ hS (fun hS2 => ?_)
            clear hK K hS2 x4
            (try simp only [Act.put]); (try simp only [List.setIfInBounds_toArray, List.set_cons_zero, List.set_cons_succ])
            refine heldTake 16 _ rfl (by kernel_rfl) (by kernel_rfl) (by kernel_rfl) (fun _ _ _ h => h) rfl hS (fun wy hy => by first | (go_simp; done) | (go_simp; rfl) | rfl) ?_
            (try simp only [Act.put]); (try simp only [List.setIfInBounds_toArray, List.set_cons_zero, List.set_cons_succ])
            have HC13 := hide HTc.out.tin.size13
            have HCO : Hid (∀ v ∈ cc.toList, v.oneCell' = true) := fun v hv => by
              have h1 := HTc.out.tin.all1
              rw [Array.all_eq_true'] at h1
              exact h1 v (by simpa using hv)
            have HFV : Hid (wkac.ownsRow 0 65 13 (.slice av2 L.length cv2) L.length (vfl L)) := by
              have h := HKc.out.owns HS2.out.fv HNV.out
              rw [HVV.out] at h
              exact h
            refine heldStep 18 rfl (by kernel_rfl) (fun K hK => ?_)
            refine step_append_val8 rfl _ _ rfl 0 (.slice av2 L.length cv2) L.length (vfl L) rfl HFV.out za zv zv_one8 rfl HZc.out.1 (by have := HLN.out; omega) (Nat.zero_le _) (fun v5 w5 ho5 hg5 hq5 => ?_)
            obtain ⟨gi, c5, hv5, cur5, hcur5, hcs5⟩ : ∃ gi c5, v5 = .slice (some ⟨gi, 0, none⟩) (L.length + 1) c5 ∧ ∃ cur5, w5.heap[gi]? = some (.cells cur5 65 (0, 0)) ∧ (L.length + 1) * 13 ≤ cur5.size := by
              rcases ho5.2 with ⟨_, h0⟩ | ⟨gi, c5, cur5, e, _, h1, h2, _, h3, _⟩
              · omega
              · exact ⟨gi, c5, e, cur5, h1, by rw [h3]; exact Nat.mul_le_mul_right 13 h2⟩
            subst hv5
            have hk5 : Kp (fun r => d2.vv.ownBlock = some r) wkac w5 := (Kp.refl _ _).grown hg5 (fun _ _ h => by rw [HVV.out]; exact h)
            have hgi5 : d2.vv.ownBlock = some gi ∨ gi = wkac.heap.size := by
              rcases hq5 with e | e
              · exact .inl (by rw [HVV.out, ← e]; rfl)
              · injection e with e
                exact .inr e
            have HPUT := hide (HS2.out.put HQ2.out HG2.out HU2.out HKc.out HEc.out HMc.out HTc.out HC13.out hk5 ho5 hgi5 hcur5)
            have hS5 : Sst p d.vb d.vt (.slice (some ⟨gu, 0, none⟩) d2.qs.length cu2) d2.qs b (off + L.length * 13) (cx L.length) w5 := hS.kp hk5 HWP.out HWU.out HWB.out
            have HGP : Hid (gi ≠ p) := fun e => by
              rcases hgi5 with h | h
              · exact HWP.out (by rw [← e]; exact h)
              · have h1 := HKc.out.size
                have h2 := blk_lt HS2.out.fp
                omega
            have HGB : Hid (gi ≠ b) := fun e => by
              rcases hgi5 with h | h
              · exact HWB.out (by rw [← e]; exact h)
              · have h1 := HKc.out.size
                have h2 := HBL.out
                omega
            have HGU : Hid (∀ q, (Value.slice (some ⟨gu, 0, none⟩) d2.qs.length cu2).ownBlock = some q → ¬ q = gi) := fun q hq e => by
              rcases hgi5 with h | h
              · exact HWU.out q hq (by rw [e]; exact h)
              · have h1 := HKc.out.size
                have h2 := HUL.out q hq
                omega
            have HI5 : Hid ((Tryz.prog.info? 65).map (·.size) = some cc.size) := by show _ = _; rw [HC13.out]; exact infoV
            have HX5 : Hid (L.length * 13 + cc.size ≤ cur5.size) := by have := HC13.out; show _ ≤ _; omega
            have HCR := hide hcur5
            have HP5 := hide hS5.1
            have HIX : Hid ((((L.length : Nat) : Int) < ((L.length + 1 : Nat) : Int)) ∧ (L.length : Int) < (L.length : Int) + 1) := ⟨by omega, by omega⟩
            refine (Hid.out hK) _ _ hS5 (fun hS6 => ?_)
            clear hK K ho5 hg5 hq5 hk5 hgi5 hcs5 hcur5 hS hS5 HFV HKc HEc HMc HTc HZc
            have hS := hS6
            clear hS6
            (try simp only [Act.put]); (try simp only [List.setIfInBounds_toArray, List.set_cons_zero, List.set_cons_succ])
            refine heldTake 19 (.pointer (some ⟨gi, L.length * 13, none⟩)) rfl (by kernel_rfl) (by kernel_rfl) (by kernel_rfl) (fun _ _ _ h => h) rfl hS (fun wy hy => by have h0 := HIX.out.1; have h1 := HIX.out.2; first | (go_simp; done) | (go_simp; omega) | (go_simp; rfl)) ?_
            (try simp only [Act.put]); (try simp only [List.setIfInBounds_toArray, List.set_cons_zero, List.set_cons_succ])
            refine heldTake 21 _ rfl (by kernel_rfl) (by kernel_rfl) (by kernel_rfl) (fun _ _ _ h => h) rfl hS (fun wy hy => by first | (go_simp; done) | (go_simp; rfl) | rfl) ?_
            (try simp only [Act.put]); (try simp only [List.setIfInBounds_toArray, List.set_cons_zero, List.set_cons_succ])
            refine heldTake 22 _ rfl (by kernel_rfl) (by kernel_rfl) (by kernel_rfl) (fun _ _ _ h => h) rfl hS (fun wy hy => by first | (go_simp; done) | (go_simp; rfl) | rfl) ?_
            (try simp only [Act.put]); (try simp only [List.setIfInBounds_toArray, List.set_cons_zero, List.set_cons_succ])
            have hS4 : Sst p d.vb d.vt (.slice (some ⟨gu, 0, none⟩) d2.qs.length cu2) d2.qs b (off + L.length * 13) (cx L.length) (w5.setRow gi (splice cur5.toList (L.length * 13) cc.toList).toArray) := hS.kp (row_kp w5 gi _) (fun e => HGP.out e.symm) HGU.out (fun e => HGB.out e.symm)
            obtain ⟨v4a, hv4a⟩ := HP5.out
            obtain ⟨v4b, hv4b⟩ := hS4.1
            have c4a : w5.cell? ⟨p, 4, none⟩ = some v4a := blk_cell (j := 4) hv4a rfl
            have f4a : w5.frozen? ⟨p, 4, none⟩ = false := blk_frozen 4 hv4a
            have c4b : (w5.setRow gi (splice cur5.toList (L.length * 13) cc.toList).toArray).cell? ⟨p, 4, none⟩ = some v4b := blk_cell (j := 4) hv4b rfl
            have f4b : (w5.setRow gi (splice cur5.toList (L.length * 13) cc.toList).toArray).frozen? ⟨p, 4, none⟩ = false := blk_frozen 4 hv4b
            have HS4s : Hid (Sst p d.vb d.vt (.slice (some ⟨gu, 0, none⟩) d2.qs.length cu2) d2.qs b (off + L.length * 13) (cx L.length) ((w5.setRow gi (splice cur5.toList (L.length * 13) cc.toList).toArray).setCell ⟨p, 4, none⟩ (.slice (some ⟨gi, 0, none⟩) (L.length + 1) c5))) := hS4.set _ HBP.out HUP.out
            have HS5s : Hid (Sst p d.vb d.vt (.slice (some ⟨gu, 0, none⟩) d2.qs.length cu2) d2.qs b (off + L.length * 13) (cx L.length) (w5.setCell ⟨p, 4, none⟩ (.slice (some ⟨gi, 0, none⟩) (L.length + 1) c5))) := hS.set _ HBP.out HUP.out
            have HEQ := hide (row_cell_comm w5 p gi 4 (.slice (some ⟨gi, 0, none⟩) (L.length + 1) c5) (splice cur5.toList (L.length * 13) cc.toList).toArray HGP.out)
            have HCR7 : Hid ((w5.setCell ⟨p, 4, none⟩ (.slice (some ⟨gi, 0, none⟩) (L.length + 1) c5)).heap[gi]? = some (.cells cur5 65 (0, 0))) := blk_other _ _ HCR.out HGP.out
            clear hv4a hv4b
            refine wpAnyH_ready (rs := [20, 23]) (by kernel_rfl) (by simp) ?_
            refine AllReadyH.cons rfl (fun K hK => ?_) (AllReadyH.cons rfl (fun K hK => ?_) AllReadyH.nil)
            · as_aux_lemma =>
              refine step_storePart8 rfl rfl gi (L.length * 13) cur5 cc 65 rfl rfl HCR.out HI5.out HX5.out HCO.out ?_
              refine (Shut.out hK) _ _ hS4 (fun hS6 => ?_)
              clear hK K hS hS4 c4a f4a
              (try simp only [Act.put])
              generalize w5.setRow gi (splice cur5.toList (L.length * 13) cc.toList).toArray = w6 at *
              refine heldStep 23 rfl (by kernel_rfl) (fun K hK => ?_)
              go_simp
              refine (Hid.out hK) _ _ HS4s.out (fun hS7 => ?_)
              clear hK K hS6 c4b f4b
              (try simp only [Act.put])
              refine heldDone (by kernel_rfl) ?_
              clear hS7
              have HFIN : Hid (∃ d' L', L'.length = L.length + 1 ∧ Svs w (w6.setCell ⟨p, 4, none⟩ (.slice (some ⟨gi, 0, none⟩) (L.length + 1) c5)) p d d' ts L') := ⟨_, L ++ [cc], by rw [List.length_append, List.length_singleton], HPUT.out⟩
              clear HPUT
              go_wp2_with fail
              go_roundw
              case rel => exact ⟨L.length + 1, by have := HLT.out; omega, by go_num, HFIN⟩
              case measure => have := HLT.out; simp [intOf]; omega
            · as_aux_lemma =>
              go_simp
              refine (Shut.out hK) _ _ HS5s.out (fun hS6 => ?_)
              clear hK K hS hS4 c4a f4a c4b f4b
              (try simp only [Act.put])
              refine heldStep 20 rfl (by kernel_rfl) (fun K hK => ?_)
              refine step_storePart8 rfl rfl gi (L.length * 13) cur5 cc 65 rfl rfl HCR7.out HI5.out HX5.out HCO.out ?_
              refine (Hid.out hK) _ _ (by rw [HEQ.out]; exact HS4s.out) (fun hS7 => ?_)
              clear hK K hS6
              (try simp only [Act.put])
              refine heldDone (by kernel_rfl) ?_
              clear hS7
              have HFIN : Hid (∃ d' L', L'.length = L.length + 1 ∧ Svs w ((w5.setCell ⟨p, 4, none⟩ (.slice (some ⟨gi, 0, none⟩) (L.length + 1) c5)).setRow gi (splice cur5.toList (L.length * 13) cc.toList).toArray) p d d' ts L') := ⟨_, L ++ [cc], by rw [List.length_append, List.length_singleton], by rw [HEQ.out]; exact HPUT.out⟩
              clear HPUT
              go_wp2_with fail
              go_roundw
              case rel => exact ⟨L.length + 1, by have := HLT.out; omega, by go_num, HFIN⟩
              case measure => have := HLT.out; simp [intOf]; omega

    · have g1 : ¬ (L.length : Int) < (ts.length : Int) := by omega
      have hLe : L.length = ts.length := by omega
      have HLE := hide hLe
      have q4 : wr.cell? ⟨p, 4, none⟩ = some d1.vv := blk_cell (j := 4) HS1.out.fp rfl
      obtain ⟨av2, cv2, hvv2⟩ := row_slice HS1.out.fv
      have HVV := hide hvv2
      rw [hvv2] at q4
      clear hLe hvv2 hlt hi
      go_wp2_with fail
      go_ret
      exact ⟨d1, by rw [HVV.out]; rfl, L, HLE.out, HS1.out⟩
end
section
open Go.RowKit Go
/-- The seat's row of bytes was written anew. -/
theorem Seb.bytes {w w' : World} {p : Nat} {M : Nat → Prop} {d : Sd} {vb' : Value} {n : Nat} {xs : List Value} (h : Seb w p M d) (hp : w'.heap[p]? = some (.cells (scs vb' d.vt d.vv d.vu) 59 (0, 0))) (ho : w'.ownsRow 0 5 1 vb' n xs) (hk : Kp (fun q => q = p ∨ d.vb.ownBlock = some q) w w') (hn : ∀ q, vb'.ownBlock = some q → d.vb.ownBlock = some q ∨ w.heap.size ≤ q) :
    Seb w' p (fun q => M q ∨ (w.heap.size ≤ q ∧ q < w'.heap.size)) { d with vb := vb', nb := n, xb := xs } := by
  have hnb : ∀ q, vb'.ownBlock = some q → M q ∨ (w.heap.size ≤ q ∧ q < w'.heap.size) := fun q hq => (hn q hq).imp (fun e => h.mo q (.inr (.inl e))) (fun e => ⟨e, (ho.lt q hq).2⟩)
  refine ⟨hp, ho, hk.owns h.ft (fun q hq e => ?_), hk.owns h.fv (fun q hq e => ?_), hk.owns h.fu (fun q hq e => ?_), fun q hq => ?_, fun i hi x hx => ⟨.inl (h.ms i hi x hx).1, fun e => ?_⟩, h.md, fun x hx => ?_⟩
  · rcases e with e | e
    · exact own_not h.ft h.fp (by decide) (by rw [hq, e])
    · exact own_apart h.ft h.fb (by decide) hq e
  · rcases e with e | e
    · exact own_not h.fv h.fp (by decide) (by rw [hq, e])
    · exact own_apart h.fv h.fb (by decide) hq e
  · rcases e with e | e
    · exact own_not h.fu h.fp (by decide) (by rw [hq, e])
    · exact own_apart h.fu h.fb (by decide) hq e
  · rcases hq with e | e | e | e | e
    · exact .inl (h.mo q (.inl e))
    · exact hnb q e
    · exact .inl (h.mo q (.inr (.inr (.inl e))))
    · exact .inl (h.mo q (.inr (.inr (.inr (.inl e)))))
    · exact .inl (h.mo q (.inr (.inr (.inr (.inr e)))))
  · have h1 := h.ms i hi x hx
    have h2 := h.lt x h1.1
    rcases e with e | e | e | e | e
    · exact h1.2 (.inl e)
    · rcases hn x e with h3 | h3
      · exact h1.2 (.inr (.inl h3))
      · omega
    · exact h1.2 (.inr (.inr (.inl e)))
    · exact h1.2 (.inr (.inr (.inr (.inl e))))
    · exact h1.2 (.inr (.inr (.inr (.inr e))))
  · rcases hx with hx | hx
    · exact Nat.lt_of_lt_of_le (h.lt x hx) hk.size
    · exact hx.2
/-- The seat's row of texts was written anew. -/
theorem Seb.texts {w w' : World} {p : Nat} {M : Nat → Prop} {d : Sd} {vt' : Value} {n : Nat} {xs : List Value} (h : Seb w p M d) (hp : w'.heap[p]? = some (.cells (scs d.vb vt' d.vv d.vu) 59 (0, 0))) (ho : w'.ownsRow 0 9 1 vt' n xs) (hk : Kp (fun q => q = p ∨ d.vt.ownBlock = some q) w w') (hn : ∀ q, vt'.ownBlock = some q → d.vt.ownBlock = some q ∨ w.heap.size ≤ q) :
    Seb w' p (fun q => M q ∨ (w.heap.size ≤ q ∧ q < w'.heap.size)) { d with vt := vt', nt := n, xt := xs } := by
  have hnb : ∀ q, vt'.ownBlock = some q → M q ∨ (w.heap.size ≤ q ∧ q < w'.heap.size) := fun q hq => (hn q hq).imp (fun e => h.mo q (.inr (.inr (.inl e)))) (fun e => ⟨e, (ho.lt q hq).2⟩)
  refine ⟨hp, hk.owns h.fb (fun q hq e => ?_), ho, hk.owns h.fv (fun q hq e => ?_), hk.owns h.fu (fun q hq e => ?_), fun q hq => ?_, fun i hi x hx => ⟨.inl (h.ms i hi x hx).1, fun e => ?_⟩, h.md, fun x hx => ?_⟩
  · rcases e with e | e
    · exact own_not h.fb h.fp (by decide) (by rw [hq, e])
    · exact own_apart h.fb h.ft (by decide) hq e
  · rcases e with e | e
    · exact own_not h.fv h.fp (by decide) (by rw [hq, e])
    · exact own_apart h.fv h.ft (by decide) hq e
  · rcases e with e | e
    · exact own_not h.fu h.fp (by decide) (by rw [hq, e])
    · exact own_apart h.fu h.ft (by decide) hq e
  · rcases hq with e | e | e | e | e
    · exact .inl (h.mo q (.inl e))
    · exact .inl (h.mo q (.inr (.inl e)))
    · exact hnb q e
    · exact .inl (h.mo q (.inr (.inr (.inr (.inl e)))))
    · exact .inl (h.mo q (.inr (.inr (.inr (.inr e)))))
  · have h1 := h.ms i hi x hx
    have h2 := h.lt x h1.1
    rcases e with e | e | e | e | e
    · exact h1.2 (.inl e)
    · exact h1.2 (.inr (.inl e))
    · rcases hn x e with h3 | h3
      · exact h1.2 (.inr (.inr (.inl h3)))
      · omega
    · exact h1.2 (.inr (.inr (.inr (.inl e))))
    · exact h1.2 (.inr (.inr (.inr (.inr e))))
  · rcases hx with hx | hx
    · exact Nat.lt_of_lt_of_le (h.lt x hx) hk.size
    · exact hx.2
theorem Seb.vb_inn {w : World} {p : Nat} {M : Nat → Prop} {d : Sd} (h : Seb w p M d) : ∀ q, d.vb.ownBlock = some q ∨ d.vt.ownBlock = some q → ¬ d.inn p q := fun q hq e => by
  rcases e with e | e | e | ⟨i, hi, e⟩
  · rcases hq with hq | hq
    · exact own_not h.fb h.fp (by decide) (by rw [hq, e])
    · exact own_not h.ft h.fp (by decide) (by rw [hq, e])
  · rcases hq with hq | hq
    · exact own_apart h.fb h.fv (by decide) hq e
    · exact own_apart h.ft h.fv (by decide) hq e
  · rcases hq with hq | hq
    · exact own_apart h.fb h.fu (by decide) hq e
    · exact own_apart h.ft h.fu (by decide) hq e
  · have h1 := (h.ms i hi q e).2
    rcases hq with hq | hq
    · exact h1 (.inr (.inl hq))
    · exact h1 (.inr (.inr (.inl hq)))
/-- The seat's values were laid anew: it is a seat again. -/
theorem Svs.seb {w wx : World} {p : Nat} {M : Nat → Prop} {d d' : Sd} {ts : List Tv} {L : List (Array Value)} (hb : Seb w p M d) (h : Svs w wx p d d' ts L) :
    Seb wx p (fun q => M q ∨ (w.heap.size ≤ q ∧ q < wx.heap.size)) { d' with vb := d.vb, vt := d.vt, nb := d.nb, nt := d.nt, xb := d.xb, xt := d.xt, nv := L.length, xv := vfl L } := by
  have hin : ∀ q, d'.inn p q → q < wx.heap.size → M q ∨ (w.heap.size ≤ q ∧ q < wx.heap.size) := fun q hq hl => (h.nw q hq).imp (hb.inn q) (fun e => ⟨e, hl⟩)
  refine ⟨h.fp, h.k.owns hb.fb (fun q hq => hb.vb_inn q (.inl hq)), h.k.owns hb.ft (fun q hq => hb.vb_inn q (.inr hq)), h.fv, h.fu, fun q hq => ?_, fun i hi x hx => ⟨hin x (.inr (.inr (.inr ⟨i, hi, hx⟩))) (h.lt hi hx), fun e => ?_⟩, h.md, fun x hx => ?_⟩
  · rcases hq with e | e | e | e | e
    · exact .inl (hb.mo q (.inl e))
    · exact .inl (hb.mo q (.inr (.inl e)))
    · exact .inl (hb.mo q (.inr (.inr (.inl e))))
    · exact hin q (.inr (.inl e)) (h.fv.lt q e).2
    · exact hin q (.inr (.inr (.inl e))) (h.fu.lt q e).2
  · have h1 := h.ms i hi x hx
    have h2 : ∀ q, d.vb.ownBlock = some q ∨ d.vt.ownBlock = some q → q ≠ x := fun q hq e2 => by
      subst e2
      rcases h.nw q (.inr (.inr (.inr ⟨i, hi, hx⟩))) with h3 | h3
      · exact hb.vb_inn q hq h3
      · have h4 : M q := hq.elim (fun e => hb.mo q (.inr (.inl e))) (fun e => hb.mo q (.inr (.inr (.inl e))))
        have := hb.lt q h4
        omega
    rcases e with e | e | e | e | e
    · exact h1.1 e
    · exact h2 x (.inl e) rfl
    · exact h2 x (.inr e) rfl
    · exact h1.2.1 e
    · exact h1.2.2 e
  · rcases hx with hx | hx
    · exact Nat.lt_of_lt_of_le (hb.lt x hx) h.z
    · exact hx.2
/-- The value that was laid lies all in the seat. -/
theorem Svs.tiw {w wx : World} {p : Nat} {M : Nat → Prop} {d d' : Sd} {t : Tv} {L : List (Array Value)} (hb : Seb w p M d) (h : Svs w wx p d d' t.is L) (hL : L.length = t.is.length) (ht : Tbd t) (hyb : ∀ x ∈ t.y, x < 256) (hkz : ∀ s ∈ t.ks, s.size ≤ 140737488351232) (hkl : t.ks.length ≤ 140737488351232) (hil : t.is.length ≤ 140737488351232)
    (hy : wx.ownsRow 0 5 1 d.vb t.y.length (bv t.y)) (hk : wx.ownsRow 0 9 1 d.vt t.ks.length (sv t.ks)) : Tiw wx (fun q => M q ∨ (w.heap.size ≤ q ∧ q < wx.heap.size)) t (vcs t d.vb d.vt d'.vv) := by
  intro w2 h2
  have hin : ∀ q, d'.inn p q → q < wx.heap.size → M q ∨ (w.heap.size ≤ q ∧ q < wx.heap.size) := fun q hq hl => (h.nw q hq).imp (hb.inn q) (fun e => ⟨e, hl⟩)
  have oy := h2.owns hy (fun q hq e => e (.inl (hb.mo q (.inr (.inl hq)))))
  have ok := h2.owns hk (fun q hq e => e (.inl (hb.mo q (.inr (.inr (.inl hq))))))
  have ov := h2.owns h.fv (fun q hq e => e (hin q (.inr (.inl hq)) (h.fv.lt q hq).2))
  refine Tin.of (BSl.own oy hyb) (SSl.own ok rfl hkl hkz) ?_ ht
  rcases id ov.2 with ⟨e, h0⟩ | ⟨g, cap, cur, e, _, _, h1, _⟩
  · have e2 : t.is = [] := List.length_eq_zero_iff.1 (by omega)
    rw [e, e2]
    exact ⟨⟨none, 0, rfl, ⟨by simp, fun _ => rfl⟩, .inl rfl⟩, by simp⟩
  · rw [e] at ov ⊢
    refine ⟨⟨_, cap, by rw [hL], ⟨by omega, fun h => by cases h⟩, .inr ⟨g, 0, rfl, fun i u hu => ?_⟩⟩, hil⟩
    have hl := (List.getElem?_eq_some_iff.1 hu).1
    have hc : L[i]? = some (L[i]'(by omega)) := List.getElem?_eq_getElem (by omega)
    obtain ⟨hi, hti⟩ := h.t i u _ hu hc
    refine ⟨_, hti w2 (h2.mono (fun q _ e hM => e (hin q (.inr (.inr (.inr ⟨i, hi, hM⟩))) (h.lt hi hM)))), fun j v hj => ?_⟩
    rw [Nat.zero_add]
    exact own_val ov h.s hc j v hj
end
end Go.Proofs.YtjlknnpgngaooaaGreatDoor
