import Derived.Test.YtfjdpooaipehmaaLta
namespace Go.Proofs.Ytfjdpooaipehmaa
open Go.RowKit

theorem bytes_at {w : World} {base B : Nat} {F : Nat → Prop} {t : Nat} (h : BookAt w base B F t) (l : Value) (n : Nat) (xs : List Value) (hl : w.ownsRow base 5 1 l n xs) (hn : n < 68719476736)
    (hd : ∀ k, l.ownBlock = some k → ¬ F k) (ht : t + 1 < 68719476736) (hbase : base ≤ w.heap.size) :
    Calls Try.prog 28 #[.pointer (some ⟨B, 0, none⟩), l] w fun e w' => e = .returned (.tuple #[]) ∧ BookAt w' base B (fun k => F k ∨ l.ownBlock = some k ∨ w.heap.size ≤ k) (t + 1) ∧ Kp (fun k => F k ∨ l.ownBlock = some k) w w' := by
  obtain ⟨vb, vo, es, a, d, u, hok, hf⟩ := h
  refine (bytes_any hok l n xs hl hn (fun e he k hk hlk => hd k hlk (hf k (.inr (.inr (.inr ⟨e, he, hk⟩))))) ht hbase).mono ?_
  rintro e w' ⟨rfl, vb', vo', es', u', hok', hk', hf'⟩
  refine ⟨rfl, ⟨vb', vo', es', a, d, u', hok', fun k hk => ?_⟩, hk'.mono (fun k _ hk => ?_)⟩
  · rcases hf' k hk with h | h | h
    · exact .inl (hf k h)
    · exact .inr (.inl h)
    · exact .inr (.inr h.1)
  · rcases hk with h | h | h | h
    · exact .inl (hf k (.inl h))
    · exact .inl (hf k (.inr (.inl h)))
    · exact .inl (hf k (.inr (.inr (.inl h))))
    · exact .inr h

/-- The blocks of the first k answers. -/
def Firsts (ps : List Wait) (k q : Nat) : Prop := ∃ (j : Nat) (p : Wait), j < k ∧ ps[j]? = some p ∧ p.got.ownBlock = some q

set_option maxRecDepth 1000000 in
set_option maxHeartbeats 400000 in
theorem settle_any {w : World} {base : Nat} {X : Nat → Prop} {B L t c : Nat} (h : Hs w base X B L t c) (hbase : base ≤ w.heap.size) (n : Int) (hb : t + c + 1 < 68719476736) :
    Calls Try.prog 11 #[.pointer (some ⟨L, 0, none⟩), .pointer (some ⟨B, 0, none⟩), .int .i64 n] w fun e w' => e = .returned (.bool true) ∧
      Hid (∃ t' c', t' + c' ≤ t + c ∧ Hs w' base (fun k => X k ∧ k < w.heap.size) B L t' c' ∧ Kp (fun k => base ≤ k ∧ ¬ X k) w w') := by
  have HH := hide h
  obtain ⟨F, G, hbook, ⟨vg, vw, ps, hok, hlf, hpc⟩, hd, hx⟩ := h
  obtain ⟨ag, cg, hvg, hq1, hq2, hcg⟩ := own_form hok.hg
  have HBK := hide hbook
  have HLT := hide hok
  have HLF := hide hlf
  have HD := hide hd
  have HX := hide hx
  have HCG := hide hcg
  have HBS := hide hbase
  have HTC := hide hb
  have HPC := hide hpc
  have c0 : w.cell? ⟨L, 0, none⟩ = some (.slice ag ps.length cg) := by rw [← hvg]; exact blk_cell hok.blk rfl
  clear hbook hok hlf hd hx hcg hbase hb hq1 hpc
  by_cases hfew : (ps.length : Int) < n
  · go_enter Try.func11, Try.ntmps11
    go_wp2
    go_ret
    exact ⟨rfl, t, c, Nat.le_refl _, HH.out.mono (fun k _ _ hk => hk.1), Kp.refl _ _⟩
  · have hfew' : n ≤ (ps.length : Int) := by omega
    clear hfew HH
    go_enter Try.func11, Try.ntmps11
    go_wp2_with fail
    refine (same_any HLT.out).mono ?_
    rintro e w1 ⟨rfl, hk1⟩
    have HK1 := hide hk1
    have HLT1 := hide (HLT.out.kp hk1 (fun _ _ h => h))
    have HBK1 := hide (HBK.out.kp hk1 (fun _ _ h => h))
    clear hk1 c0
    go_wp2
    go_loopw [7] (fun i wr => ∃ k : Nat, k ≤ ps.length ∧ i = .int .i64 k ∧ BookAt wr base B (fun q => F q ∨ Firsts ps k q ∨ w.heap.size ≤ q) (t + k) ∧ Kp (fun q => F q ∨ Firsts ps k q) w wr) (fun i _ => ps.length - (intOf i).toNat)
    case atStart => exact ⟨0, Nat.zero_le _, rfl, HBK1.out.mono (fun k _ hk => .inl hk), HK1.out.mono (fun _ _ h => h.elim)⟩
    case round =>
      obtain ⟨k, hk, rfl, hbk, hkp⟩ := hrel
      have HBR := hide hbk
      have HKR := hide hkp
      clear hbk hkp HLT1 HBK1 HK1
      have HSZ : Hid (base ≤ wr.heap.size ∧ w.heap.size ≤ wr.heap.size) := ⟨Nat.le_trans HBS.out HKR.out.size, HKR.out.size⟩
      -- what Late holds is not touched but for the answers' own blocks
      have HNF : Hid (∀ q, LFoot L vg vw ps q → ¬ F q) := fun q hq => HD.out q (HLF.out q hq)
      have HNB : Hid (∀ {ee : TypeId} {cur : Array Value} {fr : Nat × Nat} {q : Nat}, w.heap[q]? = some (.cells cur ee fr) → ee ≠ 5 → ¬ Firsts ps k q) := fun hq hne hfi => by
        obtain ⟨j, p, _, hp, hpq⟩ := hfi
        obtain ⟨cur', hc'⟩ := own_block_type (HLT.out.got p (List.mem_of_getElem? hp)) hpq
        rw [hc'] at hq
        injection hq with hq
        injection hq with _ h2
        exact hne h2.symm
      have HLB : Hid (wr.heap[L]? = some (.cells #[vg, vw] 49 (0, 0))) := (HKR.out.block L (blk_lt HLT.out.blk) (fun hor => by
        rcases hor with h | h
        · exact HNF.out L (.inl rfl) h
        · exact HNB.out HLT.out.blk (by decide) h)).trans HLT.out.blk
      have HVG : Hid (wr.ownsRow base 53 1 vg ps.length (ps.map (·.got))) := HKR.out.owns HLT.out.hg (fun q hq hor => by
        rcases hor with h | h
        · exact HNF.out q (.inr (.inl hq)) h
        · obtain ⟨cur, hcur⟩ := own_block_type HLT.out.hg hq
          exact HNB.out hcur (by decide) h)
      have c0 : wr.cell? ⟨L, 0, none⟩ = some (.slice ag ps.length cg) := by rw [← hvg]; exact blk_cell HLB.out rfl
      by_cases hlt : k < ps.length
      · have hlt' : (k : Int) < (ps.length : Int) := by omega
        obtain ⟨p, hp⟩ : ∃ p, ps[k]? = some p := ⟨ps[k], by simp [hlt]⟩
        have hmem := List.mem_of_getElem? hp
        have hgot := HLT.out.got p hmem
        have hnot : ∀ q, p.got.ownBlock = some q → ¬ (F q ∨ Firsts ps k q) := fun q hq hor => by
          rcases hor with h | ⟨j, pj, hj, hpj, hqj⟩
          · exact HNF.out q (.inr (.inr (.inr (.inl ⟨p, hmem, hq⟩)))) h
          · exact HLT.out.two j k pj p hpj hp (by omega) q hqj hq
        have hgotr := HKR.out.owns hgot hnot
        obtain ⟨gb, hab, hcb1⟩ := HCG.out k p.got (by simp [hp])
        have hgb : (Value.slice ag ps.length cg).ownBlock = some gb := by rw [hab]; rfl
        have cg1 : wr.cell? ⟨gb, k, none⟩ = some p.got := HKR.out.cell hcb1 (fun hor => by
          rcases hor with h | h
          · exact HNF.out gb (.inr (.inl (by rw [hvg]; exact hgb))) h
          · obtain ⟨cur, hcur⟩ := own_block_type HLT.out.hg (k := gb) (by rw [hvg]; exact hgb)
            exact HNB.out hcur (by decide) h)
        have HGR := hide hgotr
        have HNT : Hid (∀ q, p.got.ownBlock = some q → ¬ (F q ∨ Firsts ps k q ∨ w.heap.size ≤ q)) := fun q hq hor => by
          rcases hor with h | h | h
          · exact hnot q hq (.inl h)
          · exact hnot q hq (.inr h)
          · have := (own_back hgot q hq).2; omega
        have HP := hide hp
        have HBY : Hid (p.xs.length < 68719476736) := (HLT.out.byte p hmem).2
        rw [hab] at c0
        clear hgotr hnot hgot hmem hp hcb1 hgb hab
        go_wp2_with fail
        refine (bytes_at HBR.out p.got _ _ HGR.out HBY.out HNT.out (by have := HTC.out; have := HPC.out; omega) HSZ.out.1).mono ?_
        rintro e w2 ⟨rfl, hbk2, hkp2⟩
        have HB2 := hide hbk2
        have HK2 := hide hkp2
        clear hbk2 hkp2 c0 cg1
        go_wp2
        go_roundw
        case rel =>
          have hstep : ∀ q, Firsts ps k q ∨ p.got.ownBlock = some q → Firsts ps (k + 1) q := fun q hor => by
            rcases hor with ⟨j, pj, hj, hpj, hqj⟩ | h
            · exact ⟨j, pj, by omega, hpj, hqj⟩
            · exact ⟨k, p, by omega, HP.out, h⟩
          refine ⟨k + 1, by omega, by go_num, HB2.out.mono (fun q _ hor => ?_), HKR.out.mono (fun q _ hor => ?_) |>.trans HK2.out (fun q hq hor => ?_)⟩
          · rcases hor with (h | h | h) | h | h
            · exact .inl h
            · exact .inr (.inl (hstep q (.inl h)))
            · exact .inr (.inr h)
            · exact .inr (.inl (hstep q (.inr h)))
            · exact .inr (.inr (by have := HSZ.out.2; omega))
          · rcases hor with h | h
            · exact .inl h
            · exact .inr (hstep q (.inl h))
          · rcases hor with (h | h | h) | h
            · exact .inl h
            · exact .inr (hstep q (.inl h))
            · omega
            · exact .inr (hstep q (.inr h))
        case measure => simp [intOf]; omega
      · have hlt' : ¬ (k : Int) < (ps.length : Int) := by omega
        have hke : k = ps.length := by omega
        have c1 : wr.cell? ⟨L, 1, none⟩ = some vw := blk_cell HLB.out rfl
        have f0 := blk_frozen 0 HLB.out
        have f1 := blk_frozen 1 HLB.out
        have HKL : Hid (Kp (fun q => q = L) wr ((wr.setCell ⟨L, 0, none⟩ (.slice none 0 0)).setCell ⟨L, 1, none⟩ (.slice none 0 0))) := ((Kp.refl (fun q => q = L) wr).setCell ⟨L, 0, none⟩ (.slice none 0 0) (fun _ => rfl)).setCell ⟨L, 1, none⟩ (.slice none 0 0) (fun _ => rfl)
        have HL2 : Hid (((wr.setCell ⟨L, 0, none⟩ (.slice none 0 0)).setCell ⟨L, 1, none⟩ (.slice none 0 0)).heap[L]? = some (.cells #[.slice none 0 0, .slice none 0 0] 49 (0, 0))) := by
          have h1 := blk_set 0 (.slice none 0 0) HLB.out
          have h2 := blk_set 1 (.slice none 0 0) h1
          exact h2
        have HNL : Hid (∀ q, F q ∨ Firsts ps k q ∨ w.heap.size ≤ q → q ≠ L) := fun q hor e => by
          subst e
          rcases hor with h | h | h
          · exact HNF.out q (.inl rfl) h
          · exact HNB.out HLT.out.blk (by decide) h
          · have := blk_lt HLT.out.blk; omega
        have HB3 := hide (HBR.out.kp HKL.out HNL.out)
        have HKE := hide hke
        clear hke
        go_wp2_with fail
        refine (look_any HB3.out (Nat.le_trans HSZ.out.1 HKL.out.size)).mono ?_
        rintro e w4 ⟨rfl, hb4⟩
        have HB4 := hide hb4.out.1
        have HK4 := hide hb4.out.2
        clear hb4 c0 c1 f0 f1
        go_wp2
        go_ret
        refine ⟨rfl, t + k, 0, by have := HPC.out; omega, ?_, ?_⟩
        · have hF : ∀ q, F q ∨ Firsts ps k q → base ≤ q ∧ ¬ X q := fun q hor => by
            rcases hor with h | ⟨j, p, _, hp, hq⟩
            · have := HX.out q (.inl h); exact ⟨this.1, this.2.2⟩
            · have := HX.out q (.inr (HLF.out q (.inr (.inr (.inr (.inl ⟨p, List.mem_of_getElem? hp, hq⟩)))))); exact ⟨this.1, this.2.2⟩
          have hLX : base ≤ L ∧ ¬ X L := by have := HX.out L (.inr (HLF.out L (.inl rfl))); exact ⟨this.1, this.2.2⟩
          refine ⟨fun q => (F q ∨ Firsts ps k q ∨ w.heap.size ≤ q) ∧ q < w4.heap.size, fun q => q = L, HB4.out.mono (fun q hq hor => ⟨?_, hq⟩), ?_, fun q hq hf => HNL.out q hf.1 hq, fun q hor => ?_⟩
          · rcases hor with h | h
            · exact h
            · exact .inr (.inr (Nat.le_trans (Nat.le_trans HSZ.out.2 HKL.out.size) h))
          · refine ⟨.slice none 0 0, .slice none 0 0, [], ⟨(HK4.out.block L (blk_lt HL2.out) (fun h => HNL.out L h rfl)).trans HL2.out, World.ownsRow_nil _ _ _ _, World.ownsRow_nil _ _ _ _, (fun q hq => by cases hq), by simp, by simp, by simp, by simp, by simp, HLT.out.hbase⟩, fun q hq => ?_, Nat.le_refl _⟩
            rcases hq with h | h | h | ⟨p, hp, _⟩ | ⟨p, hp, _⟩
            · exact h
            · cases h
            · cases h
            · cases hp
            · cases hp
          · rcases hor with ⟨h, hlt4⟩ | h
            · refine ⟨?_, hlt4, fun hxx => ?_⟩
              · rcases h with h | h | h
                · exact (hF q (.inl h)).1
                · exact (hF q (.inr h)).1
                · exact Nat.le_trans HBS.out h
              · rcases h with h | h | h
                · exact (hF q (.inl h)).2 hxx.1
                · exact (hF q (.inr h)).2 hxx.1
                · omega
            · subst h
              refine ⟨hLX.1, ?_, fun hxx => hLX.2 hxx.1⟩
              exact Nat.lt_of_lt_of_le (blk_lt HL2.out) HK4.out.size
        · have hS : ∀ q, F q ∨ Firsts ps k q → base ≤ q ∧ ¬ X q := fun q hor => by
            rcases hor with h | ⟨j, p, _, hp, hq⟩
            · have := HX.out q (.inl h); exact ⟨this.1, this.2.2⟩
            · have := HX.out q (.inr (HLF.out q (.inr (.inr (.inr (.inl ⟨p, List.mem_of_getElem? hp, hq⟩)))))); exact ⟨this.1, this.2.2⟩
          have hLX : base ≤ L ∧ ¬ X L := by have := HX.out L (.inr (HLF.out L (.inl rfl))); exact ⟨this.1, this.2.2⟩
          refine ((HKR.out.mono (fun q _ hor => hS q hor)).trans HKL.out (fun q _ e => by subst e; exact hLX)).trans HK4.out (fun q hq hor => ?_)
          rcases hor with h | h | h
          · exact hS q (.inl h)
          · exact hS q (.inr h)
          · omega
end Go.Proofs.Ytfjdpooaipehmaa
