import Derived.Test.YtadilnmkjcmnnaaGreatDoorJa
import Derived.Test.YtadilnmkjcmnnaaGreatDoorJf
import Derived.Test.YtadilnmkjcmnnaaGreatDoorJc
import Derived.Laws.CopyRow
import Derived.Test.YtadilnmkjcmnnaaGreatDoorJd
import Derived.Laws.ResultCell
namespace Go.Proofs.YtadilnmkjcmnnaaGreatDoor
section
open Go.RowKit Go
set_option maxRecDepth 1000000 in
/-- b[k:] of bytes. -/
theorem wpList_drop {ops : Array Oper} {rest : List Oper} {o : Oper} {a : Act} {Q : Exit → Act → World → Prop} {w : World} (hgd : o.guard = none) (x y : Nat) (ho : o.op = .slice 46 (.tmp x) (some (.tmp y)) none none)
    (v : Value) (xs : List Nat) (k : Nat) (hx : a.eval (.tmp x) = v) (hy : a.eval (.tmp y) = .int .i64 (k : Nat)) (hb : BSl w v xs) (hk : k ≤ xs.length)
    (h : ∀ ad n c, BSl w (.slice ad n c) (xs.drop k) → n = xs.length - k → wpList Tryz.prog ops Q rest (a.put o.dst (.slice ad n c)) w) : wpList Tryz.prog ops Q (o :: rest) a w := by
  have HB := hide hb
  obtain ⟨⟨ad, cap, rfl, hn, hc⟩, hmax, hby⟩ := hb
  have hcap := hn.1
  have hx2 : a.tmps[x]?.getD undef = .slice ad xs.length cap := by simpa [Act.eval] using hx
  have hy2 : a.tmps[y]?.getD undef = .int .i64 (k : Nat) := by simpa [Act.eval] using hy
  refine wpList_plain hgd fun K hK => ?_
  have HK := hide hK
  have HH := hide h
  obtain ⟨dst, op, ty, pos, after, guard⟩ := o
  simp only at ho hgd
  subst ho
  have hki : (k : Int) ≤ (xs.length : Int) := by omega
  have hkc : (k : Int) ≤ (cap : Int) := by omega
  clear hK h hgd hx hy
  cases ad with
  | none =>
    have hc0 := hn.2 rfl
    have hx0 : xs.length = 0 := by omega
    have hk0 : k = 0 := by omega
    subst hk0
    have hxe : xs = [] := List.eq_nil_of_length_eq_zero hx0
    subst hxe
    subst hc0
    go_simp
    exact HK.out _ _ (HH.out none 0 0 ⟨⟨none, 0, rfl, ⟨Nat.le_refl _, fun _ => rfl⟩, .inl rfl⟩, by simp, by simp⟩ rfl)
  | some ad =>
    have HC := hide hc
    clear hc hn
    by_cases hkk : k = cap
    · have hxk : xs.length = k := by omega
      have hdr : xs.drop k = [] := List.drop_of_length_le (by omega)
      subst hkk
      rw [hxk] at hx2 hki
      go_simp
      exact HK.out _ _ (HH.out (some ad) 0 0 (by rw [hdr]; exact ⟨⟨some ad, 0, rfl, ⟨Nat.le_refl _, fun e => by cases e⟩, .inl rfl⟩, by simp, by simp⟩) (by omega))
    · have hkl : (k : Int) < (cap : Int) := by omega
      have hkk2 : ¬ cap = k := fun e => hkk e.symm
      go_simp
      refine HK.out _ _ (HH.out (some (ad.add k)) (xs.length - k) (cap - k) ?_ rfl)
      have hlen : (xs.drop k).length = xs.length - k := List.length_drop
      refine ⟨⟨some (ad.add k), cap - k, by rw [hlen], ⟨by rw [hlen]; omega, fun e => by cases e⟩, ?_⟩, by rw [hlen]; omega, fun z hz => hby z (List.mem_of_mem_drop hz)⟩
      rcases HC.out with hx0 | ⟨b, off, e, hcell⟩
      · left
        rw [hx0]
        simp
      · right
        injection e with e
        subst e
        have hadd : (⟨b, off, none⟩ : Addr).add k = ⟨b, off + k, none⟩ := by unfold Addr.add; split <;> simp_all
        rw [hadd]
        refine ⟨b, off + k, rfl, fun j hj => ?_⟩
        rw [hlen] at hj
        have h2 := hcell (k + j) (by omega)
        rw [← Nat.add_assoc] at h2
        rw [h2]
        simp [List.getD, List.getElem?_drop]
end
section
open Go.RowKit Go
/-- No link, as cells. -/
def zlk : Array Value := #[.int .i64 0, .int .u64 0, .int .u64 0, .string ⟨#[]⟩]
theorem info61 : (Tryz.prog.info? 59).map (·.size) = some 4 := by kernel_rfl
/-- What First has in hand: the result's block and the link's. -/
structure Fq (w wx : World) (R L : Nat) (lv : Array Value) : Prop where
  r : wx.heap[R]? = some (.cells zlk 59 (0, 0))
  l : wx.heap[L]? = some (.cells lv 59 (0, 0))
  b : Below w.heap.size w wx
  rb : w.heap.size ≤ R
  lb : w.heap.size ≤ L
  ne : R ≠ L
theorem Fq.below {w wx wy : World} {R L : Nat} {lv : Array Value} (h : Fq w wx R L lv) (hb : Below wx.heap.size wx wy) : Fq w wy R L lv :=
  ⟨(hb.block R (blk_lt h.r)).trans h.r, (hb.block L (blk_lt h.l)).trans h.l, h.b.trans (hb.mono h.b.size), h.rb, h.lb, h.ne⟩
theorem Fq.set {w wx : World} {R L : Nat} {lv : Array Value} (h : Fq w wx R L lv) (j : Nat) (v : Value) : Fq w (wx.setCell ⟨L, j, none⟩ v) R L (lv.setIfInBounds j v) := by
  have hk : Kp (fun q => q = L) wx (wx.setCell ⟨L, j, none⟩ v) := (Kp.refl _ _).setCell _ _ (fun _ => rfl)
  have lb := h.lb
  exact ⟨(hk.block R (blk_lt h.r) h.ne).trans h.r, blk_set j v h.l, h.b.trans (hk.below h.b.size (fun q e => by omega)), h.rb, h.lb, h.ne⟩
theorem results_c3 {fn : Func} {p u q : Tmp} {ty : TypeId} (h : fn.results = #[.cell p ty, .tmp u, .tmp q]) (tmps : Array Value) (P : Program) (w : World) :
    (results fn tmps).run P w = ((asAddr (tmps.getD p undef)).run P w).andThen fun a w₁ => ((loadVar ty a).run P w₁).andThen fun v w₂ => .ok (.tuple #[v, tmps.getD u undef, tmps.getD q undef]) w₂ := by
  simp only [results, h]
  simp [Sem.run_bind, Result.andThen]
/-- No link is laid where none is. -/
theorem wpList_zero {ops : Array Oper} {rest : List Oper} {o : Oper} {a : Act} {Q : Exit → Act → World → Prop} {w : World} {p x : Operand} (hgd : o.guard = none) (ho : o.op = .store 59 p x) (g : Nat)
    (hp : a.eval p = .pointer (some ⟨g, 0, none⟩)) (hx : a.eval x = .agg zlk) (hg : w.heap[g]? = some (.cells zlk 59 (0, 0))) (h : wpList Tryz.prog ops Q rest (a.put o.dst undef) w) : wpList Tryz.prog ops Q (o :: rest) a w := by
  refine wpList_storeRow hgd ho g zlk zlk 59 hp hx hg info61 rfl (by kernel_rfl) ?_
  rw [setRow_self w g zlk 59 (0, 0) hg]
  exact h
end
section
open Go.RowKit Go
theorem dread_bytes4 {xs : List Nat} (h : ∀ x ∈ xs, x < 256) : ∀ x ∈ (dread xs).2.1, x < 256 := by
  intro x hx
  unfold dread at hx
  repeat' split at hx
  all_goals first | (simp at hx; done) | exact h x (List.mem_of_mem_drop (List.mem_of_mem_take hx))
end
section
open Go.RowKit Go

end
end Go.Proofs.YtadilnmkjcmnnaaGreatDoor
