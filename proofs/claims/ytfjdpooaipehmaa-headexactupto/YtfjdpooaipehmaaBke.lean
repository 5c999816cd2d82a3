import Derived.Test.YtfjdpooaipehmaaBkd
namespace Go.Proofs.Ytfjdpooaipehmaa
open Go.RowKit

/-- 'append(g, y)' at bytes, one of them, and what becomes of every other row of bytes: one in the same block, no longer than g, stays as it was. -/
theorem append_mark {ops : Array Oper} {rest : List Oper} {o : Oper} {a : Act} {Q : Exit → Act → World → Prop} {w : World} (hgd : o.guard = none) (s x : Operand)
    (ho : o.op = .call { callee := .builtin .append, args := #[s, x], argTypes := #[53, 53] }) (B : Nat) (v : Value) (n : Nat) (ds : List Value) (hs : a.eval s = v) (hown : w.ownsRow B 5 1 v n ds)
    (y : Int) (S : Nat) (hS : w.heap.size = S) (hx : a.eval x = .slice (some ⟨S, 0, none⟩) 1 1) (hlen : n < 1099511627776) (hbase : B ≤ w.heap.size)
    (h : ∀ v' w', w'.ownsRow B 5 1 v' (n + 1) (ds ++ [.int .u8 y]) → (∀ v2 n2 xs2, (∀ k, v2.ownBlock = some k → v.ownBlock = some k → n2 ≤ n) → w.ownsRow B 5 1 v2 n2 xs2 → w'.ownsRow B 5 1 v2 n2 xs2) →
      Kp (fun k => v.ownBlock = some k) w w' → (v'.ownBlock = v.ownBlock ∨ v'.ownBlock = some (w.heap.size + 1)) → wpList Try.prog ops Q rest (a.put o.dst v') w') : wpList Try.prog ops Q (o :: rest) a (w.alloc (.cells #[.int .u8 y] 5)) := by
  obtain ⟨i, hi, hz0, hz1, hz2⟩ := info5_ex
  subst hS
  have hnews : ∀ j u, [Value.int .u8 y][j]? = some u → (w.alloc (.cells #[.int .u8 y] 5)).cell? ((⟨w.heap.size, 0, none⟩ : Addr).add j) = some u := cell_one_new _ _ _
  have h1 : ∀ u ∈ [Value.int .u8 y], u.oneCell' = true := by intro u hu; simp at hu; subst hu; rfl
  have hownA := hown.alloc (.cells #[.int .u8 y] 5)
  have moved : ∀ (w' : World) (v' : Value), (Builtin.append_ #[53, 53] o.type #[v, .slice (some ⟨w.heap.size, 0, none⟩) 1 1]).run Try.prog (w.alloc (.cells #[.int .u8 y] 5)) = .ok v' w' →
      w'.ownsRow B 5 1 v' (n + 1) (ds ++ [.int .u8 y]) → Kp (fun _ => False) w w' → v'.ownBlock = some (w.heap.size + 1) → wpList Try.prog ops Q (o :: rest) a (w.alloc (.cells #[.int .u8 y] 5)) := by
    intro w' v' hr hown' hk hb
    refine wpList_plain hgd fun K hK => ?_
    unfold Oper.wp execOp
    simp only [ho, resolve, invoke, builtin, Sem.run_bind, Sem.run_pure, Result.andThen_ok, List.map_toArray, List.map_cons, List.map_nil, hs, hx, hr]
    exact hK _ _ (h v' w' hown' (fun v2 n2 xs2 _ h2 => hk.owns h2 (fun _ _ hf => hf)) (hk.mono (fun _ _ hf => hf.elim)) (.inr hb))
  rcases hown.2 with ⟨rfl, rfl⟩ | ⟨g, cap, cur, rfl, hbg, hg, hnc, hcm, hcs, htake⟩
  · have hx0 : ds = [] := List.eq_nil_of_length_eq_zero (by simpa using hown.1)
    subst hx0
    obtain ⟨v', w', hr, r1, r2, _, r4⟩ := run_append_own_at (P := Try.prog) (w.alloc (.cells #[.int .u8 y] 5)) B 53 o.type 5 i (.int .u8 0) 1 1 Try.underlying53 hi hz0 hz1 hz2 rfl (by decide) (.slice none 0 0) 0 [] hownA ⟨w.heap.size, 0, none⟩ 1 1 [.int .u8 y] rfl hnews h1 (by decide) (by decide) (by simp; omega)
    refine moved w' v' hr (by simpa using r1) (((Kp.refl _ w).alloc _).grown r2 (fun k _ hk => by cases hk)) ?_
    rcases r4 with r4 | r4
    · exfalso
      rcases r1.2 with ⟨_, h0⟩ | ⟨g, _, _, rfl, _⟩
      · omega
      · simp [Value.ownBlock] at r4
    · simpa using r4
  · have hgA : (w.alloc (.cells #[.int .u8 y] 5)).heap[g]? = some (.cells cur 5 (0, 0)) := blk_alloc _ hg
    rw [Nat.mul_one] at hcs htake
    by_cases hroom : n + 1 ≤ cap
    · have hr := run_append_room (P := Try.prog) (w.alloc (.cells #[.int .u8 y] 5)) 53 o.type 5 i Try.underlying53 hi g n cap cur hgA ⟨w.heap.size, 0, none⟩ 1 1 [.int .u8 y] (by rw [hz1]; rfl) hnews h1 hroom (by rw [hz1]; simp; omega)
      rw [hz1] at hr
      simp only [Nat.mul_one, List.length_cons, List.length_nil, Nat.zero_add] at hr
      have hsz : (cur.toList.take n ++ [Value.int .u8 y] ++ cur.toList.drop (n + 1)).toArray.size = cap := by
        simp only [List.size_toArray, List.length_append, List.length_take, List.length_drop, Array.length_toList, List.length_cons, List.length_nil]
        omega
      have hpre : ∀ q, q ≤ n → (cur.toList.take n ++ [Value.int .u8 y] ++ cur.toList.drop (n + 1)).toArray.toList.take q = cur.toList.take q := by
        intro q hq
        simp only [List.append_assoc]
        rw [List.take_append_of_le_length (by simp; omega), List.take_take, Nat.min_eq_left hq]
      have hrow : ((w.alloc (.cells #[.int .u8 y] 5)).setRow g (cur.toList.take n ++ [Value.int .u8 y] ++ cur.toList.drop (n + 1)).toArray).heap[g]? = some (.cells (cur.toList.take n ++ [Value.int .u8 y] ++ cur.toList.drop (n + 1)).toArray 5 (0, 0)) := setRow_heap _ g cur _ 5 _ hgA
      have hkp : Kp (fun k => (Value.slice (some ⟨g, 0, none⟩) n cap).ownBlock = some k) w ((w.alloc (.cells #[.int .u8 y] 5)).setRow g (cur.toList.take n ++ [Value.int .u8 y] ++ cur.toList.drop (n + 1)).toArray) :=
        ⟨rfl, rfl, rfl, by simp, fun k hk hne => (setRow_other _ g k _ (fun e => hne (by simp [Value.ownBlock, e]))).trans (Below.heap_alloc w _ k hk)⟩
      refine wpList_plain hgd fun K hK => ?_
      unfold Oper.wp execOp
      simp only [ho, resolve, invoke, builtin, Sem.run_bind, Sem.run_pure, Result.andThen_ok, List.map_toArray, List.map_cons, List.map_nil, hs, hx, hr]
      refine hK _ _ (h _ _ ?_ ?_ hkp (.inl rfl))
      · refine ⟨by have := hown.1; simp; omega, .inr ⟨g, cap, _, rfl, hbg, hrow, hroom, hcm, by rw [hsz]; omega, ?_⟩⟩
        rw [Nat.mul_one, htake]
        have hl : (ds ++ [Value.int .u8 y]).length = n + 1 := by have := hown.1; simp; omega
        simp only [← hl]
        exact List.take_left
      · intro v2 n2 xs2 hle h2
        refine ⟨h2.1, ?_⟩
        rcases h2.2 with hn | ⟨g2, cap2, cur2, rfl, hb2, hg2, r1, r2, r3, r4⟩
        · exact .inl hn
        · by_cases hgg : g2 = g
          · subst hgg
            have hn2 := hle g2 rfl rfl
            rw [hg] at hg2
            injection hg2 with hg2
            injection hg2 with hg2 _
            subst hg2
            rw [Nat.mul_one] at r3 r4
            refine .inr ⟨g2, cap2, _, rfl, hb2, hrow, r1, r2, by rw [hsz]; omega, ?_⟩
            rw [Nat.mul_one, hpre n2 hn2, r4]
          · refine .inr ⟨g2, cap2, cur2, rfl, hb2, ?_, r1, r2, r3, r4⟩
            rw [hkp.block g2 (blk_lt hg2) (fun e => hgg (by simp [Value.ownBlock] at e; exact e.symm))]
            exact hg2
    · have holds : ∀ j u, ds[j]? = some u → (w.alloc (.cells #[.int .u8 y] 5)).cell? ((⟨g, 0, none⟩ : Addr).add j) = some u := hownA.cells (g := g) rfl
      have hr := run_append_grow (P := Try.prog) (w.alloc (.cells #[.int .u8 y] 5)) 53 o.type 5 i (.int .u8 0) Try.underlying53 hi hz0 ⟨g, 0, none⟩ n cap ds (by rw [hz1]; exact hown.1) holds ⟨w.heap.size, 0, none⟩ 1 1 [.int .u8 y] (by rw [hz1]; rfl) hnews (by omega) (by omega) (growslice_fits (by omega) (by rw [hz2]; omega))
      have hge := grownCap_ge (w.alloc (.cells #[.int .u8 y] 5)) (n + 1) cap 5
      have hcm' := grownCap_le_maxLen (w.alloc (.cells #[.int .u8 y] 5)) (n + 1) cap 5 (by unfold maxLen; omega)
      refine moved _ _ hr ⟨by have := hown.1; simp; omega, .inr ⟨_, _, _, rfl, by simp; omega, heap_alloc_new _ _, hge, hcm', ?_, ?_⟩⟩ ⟨rfl, rfl, rfl, by simp; omega, fun k hk _ => ?_⟩ (by simp [Value.ownBlock])
      · have := hown.1
        simp only [Array.size_append, List.size_toArray, size_zeroCells, List.length_cons, List.length_nil]
        have e : (Value.int .u8 0).cells.size = 1 := rfl
        rw [e]
        omega
      · have hl : (ds ++ [Value.int .u8 y]).length = n + 1 := by have := hown.1; simp; omega
        simp only [Array.toList_append, Nat.mul_one]
        rw [← hl]
        exact List.take_left
      · exact (Below.heap_alloc (w.alloc (.cells #[.int .u8 y] 5)).drew _ k (by simp; omega)).trans (Below.heap_alloc w _ k hk)
end Go.Proofs.Ytfjdpooaipehmaa
