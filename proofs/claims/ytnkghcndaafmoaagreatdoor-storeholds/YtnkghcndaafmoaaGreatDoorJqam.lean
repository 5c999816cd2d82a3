import Derived.Test.YtnkghcndaafmoaaGreatDoorJqal
import Derived.Test.YtnkghcndaafmoaaGreatDoorJqad
import Derived.Test.YtnkghcndaafmoaaGreatDoorJqs
namespace Go.Proofs.YtnkghcndaafmoaaGreatDoor
section
open Go.RowKit Go
theorem exec_lkAtQ13 {o : Oper} {a : Act} {p : Operand} {g off : Nat} {l : Lk} {w : World} (ho : o.op = .load 41 p) (hp : a.eval p = .pointer (some ⟨g, off, none⟩)) (hc : ∀ j u, (lcs l)[j]? = some u → w.cell? ⟨g, off + j, none⟩ = some u) : (execOp a.eval o).run Tryz.prog w = .ok (.value (.agg #[.int .i64 l.v, .int .u64 (l.c : Nat), .int .u64 (l.h : Nat), .string (nstr l.d)])) w := by
  unfold execOp
  simp only [ho, Sem.run_bind, hp, load_lk g off l hc, Result.andThen_ok]
  rfl
set_option maxRecDepth 1000000 in
set_option maxHeartbeats 4000000 in
theorem with13_any (w : World) (sb A : Nat) (v : Value) (Cs : List (Array Value)) (S : List Blk) (hc : w.heap[sb]? = some (.cells #[v] 37 (0, 0))) (hsA : sb < A) (hA : A ≤ w.heap.size) (hS : Suv A w v Cs S) (hn : S.length ≤ 400000) (l : Lk) (hl : Lkx l) (vb : Value) (b : List Nat) (hb : ∀ wy, Kp (fun q => q = sb) w wy → BSl wy vb b) (hbn : b.length ≤ 140737488351232) : Calls Tryz.prog 14 #[.pointer (some ⟨sb, 0, none⟩), .agg (lcs l), vb] w fun e w' => e = .returned (.tuple #[]) ∧ SurP w sb A (wis S l b) w' := by
  have HA := hide hA
  have HSA := hide hsA
  have HN := hide hn
  have HL := hide hl
  have HBB := hide hb
  have HBN := hide hbn
  obtain ⟨⟨avb, cvb, rfl, -⟩, -⟩ := hb w (Kp.refl _ _)
  have HB0 := hide (below_alloc4 w (.cells (lcs l) 41))
  have HL0 : Hid ((w.alloc (.cells (lcs l) 41)).heap[w.heap.size]? = some (.cells (lcs l) 41 (0, 0))) := heap_alloc_new w _
  have HWO := hide (without13_any (w.alloc (.cells (lcs l) 41)) sb A v Cs S (blk_alloc _ hc) (Nat.le_trans hA HB0.out.size) (hS.next HB0.out) (by omega) l hl)
  have HSZ : Hid (sb < w.heap.size) := blk_lt hc
  unfold lcs at HWO HB0 HL0
  clear hc hsA hA hS hn hl hb hbn
  unfold lcs
  go_enter Tryz.func14, Tryz.ntmps14
  go_upto_region 1 with fail
  generalize w.alloc (.cells #[.int .i64 l.v, .int .u64 (l.c : Nat), .int .u64 (l.h : Nat), .string (nstr l.d)] 41) = w0 at *
  have d0 : w0.cell? ⟨w.heap.size, 0, none⟩ = some (.int .i64 l.v) := blk_cell (j := 0) HL0.out rfl
  have d1 : w0.cell? ⟨w.heap.size, 1, none⟩ = some (.int .u64 (l.c : Nat)) := blk_cell (j := 1) HL0.out rfl
  have d2 : w0.cell? ⟨w.heap.size, 2, none⟩ = some (.int .u64 (l.h : Nat)) := blk_cell (j := 2) HL0.out rfl
  have d3 : w0.cell? ⟨w.heap.size, 3, none⟩ = some (.string (nstr l.d)) := blk_cell (j := 3) HL0.out rfl
  go_upto_region 2 with (go_at_call 19; refine HWO.out.mono ?_; rintro e w1 ⟨rfl, hs1⟩)
  obtain ⟨v1, C1, hc1, hs1, hk1, ho1⟩ := hs1
  obtain ⟨a1, p1, rfl, -⟩ := own_formG hs1.o
  have HC1 := hide hc1
  have HS1 := hide hs1
  have HO1 := hide ho1
  have HK1 : Hid (Kp (fun q => q = sb) w w1) := (Kp.of_below HB0.out).trans hk1 (fun _ _ e => e)
  have HL1 : Hid (w1.heap[w.heap.size]? = some (.cells (lcs l) 41 (0, 0))) := (hk1.block _ (blk_lt HL0.out) (fun e => by have := HSZ.out; omega)).trans HL0.out
  clear d0 d1 d2 d3 hc1 hs1 hk1 ho1 HWO HL0
  have hS1 : w1.drew.cell? ⟨sb, 0, none⟩ = some (.slice a1 C1.length p1) ∧ ∀ k u, (lcs l)[k]? = some u → w1.drew.cell? ⟨w.heap.size, 0 + k, none⟩ = some u := ⟨blk_cell (j := 0) HC1.out rfl, fun k u hu => blk_cell (j := 0 + k) HL1.out (by rw [Nat.zero_add]; exact hu)⟩
  refine kStart 13 14 (fun wy => wy.cell? ⟨sb, 0, none⟩ = some (.slice a1 C1.length p1) ∧ ∀ k u, (lcs l)[k]? = some u → wy.cell? ⟨w.heap.size, 0 + k, none⟩ = some u) rfl (by kernel_rfl) ?_
  have hbd : Below w1.heap.size w1 w1.drew := by
    refine Below.drew ?_
    exact Below.refl _ _
  have HBD := hide hbd
  clear hbd
  generalize w1.drew = w2 at *
  refine kTake 0 _ (by decide) rfl (by kernel_rfl) (by kernel_rfl) (by kernel_rfl) (fun _ _ _ h => h) rfl (fun wy => by first | (go_simp; done) | (go_simp; rfl) | rfl) (fun _ => hS1) ?_
  (try simp only [Act.put]); (try simp only [LsA, Ls0, LsS])
  refine kTake 1 _ (by decide) rfl (by kernel_rfl) (by kernel_rfl) (by kernel_rfl) (fun _ _ _ h => h) rfl (fun wy => by first | (go_simp; done) | (go_simp; rfl) | rfl) (fun _ => hS1) ?_
  (try simp only [Act.put]); (try simp only [LsA, Ls0, LsS])
  refine kTake 2 _ (by decide) rfl (by kernel_rfl) (by kernel_rfl) (by kernel_rfl) (fun _ _ _ h => h) rfl (fun wy => by first | (go_simp; done) | (go_simp; rfl) | rfl) (fun _ => hS1) ?_
  (try simp only [Act.put]); (try simp only [LsA, Ls0, LsS])
  refine kTake 3 _ (by decide) rfl (by kernel_rfl) (by kernel_rfl) (by kernel_rfl) (fun _ _ _ h => h) rfl (fun wy => by first | (go_simp; done) | (go_simp; rfl) | rfl) (fun _ => hS1) ?_
  (try simp only [Act.put]); (try simp only [LsA, Ls0, LsS])
  refine kLoad 4 [10,13] _ (by decide) rfl (by kernel_rfl) (by kernel_rfl) (by kernel_rfl) (by kernel_rfl) (fun _ _ _ h => h) rfl hS1 (fun wy hy => by have hy0 := hy.1; first | (go_simp; done) | (go_simp; rfl) | rfl) ?_
  (try simp only [Act.put]); (try simp only [LsA, Ls0, LsS])
  refine kLoad 5 [8,9,10,13] _ (by decide) rfl (by kernel_rfl) (by kernel_rfl) (by kernel_rfl) (by kernel_rfl) (fun _ _ _ h => h) rfl hS1 (fun wy hy => exec_lkAtQ13 rfl rfl hy.2) ?_
  (try simp only [Act.put]); (try simp only [LsA, Ls0, LsS])
  refine kTake 6 _ (by decide) rfl (by kernel_rfl) (by kernel_rfl) (by kernel_rfl) (fun _ _ _ h => h) rfl (fun wy => by first | (go_simp; done) | (go_simp; rfl) | rfl) (fun _ => hS1) ?_
  (try simp only [Act.put]); (try simp only [LsA, Ls0, LsS])
  have HL2 : Hid (w2.heap[w.heap.size]? = some (.cells (lcs l) 41 (0, 0))) := (HBD.out.block _ (blk_lt HL1.out)).trans HL1.out
  have HC2 : Hid (w2.heap[sb]? = some (.cells #[.slice a1 C1.length p1] 37 (0, 0))) := (HBD.out.block _ (blk_lt HC1.out)).trans HC1.out
  have HS2 := hide (HS1.out.next HBD.out)
  have HK2 : Hid (Kp (fun q => q = sb) w w2) := HK1.out.trans (Kp.of_below (S := fun _ => False) HBD.out) (fun _ _ e => e.elim)
  clear HBD HL1 HC1 HS1 HK1
  have HCP := hide (copy_any w2 (.slice avb b.length cvb) b (HBB.out _ HK2.out) HBN.out)
  refine kStep 7 rfl (by kernel_rfl) (fun K hK => ?_)
  go_simp
  refine HCP.out.mono ?_
  rintro e w3 ⟨vb, rfl, hob, hb3⟩
  obtain ⟨ab, cb, rfl, -⟩ := own_formG hob
  have HBY : Hid (Byv A w3 (.slice ab b.length cb) b) := ⟨BSl.own hob (HBB.out _ (Kp.refl _ _)).byte, fun q hq => by
    obtain ⟨cur, e⟩ := own_blk13 hob hq
    exact ⟨Nat.le_trans HA.out (Nat.le_trans HK2.out.size (hob.lt q hq).1), cur, _, e⟩⟩
  have HL3 : Hid (w3.heap[w.heap.size]? = some (.cells (lcs l) 41 (0, 0))) := (hb3.block _ (blk_lt HL2.out)).trans HL2.out
  have HC3 : Hid (w3.heap[sb]? = some (.cells #[.slice a1 C1.length p1] 37 (0, 0))) := (hb3.block _ (blk_lt HC2.out)).trans HC2.out
  have HS3 := hide (HS2.out.next hb3)
  have HK3 : Hid (Kp (fun q => q = sb) w w3) := HK2.out.trans (Kp.of_below (S := fun _ => False) hb3) (fun _ _ e => e.elim)
  clear hS1 HL2 HC2 HS2 HK2 HCP hob hb3
  have hS3 : w3.cell? ⟨sb, 0, none⟩ = some (.slice a1 C1.length p1) ∧ ∀ k u, (lcs l)[k]? = some u → w3.cell? ⟨w.heap.size, 0 + k, none⟩ = some u := ⟨blk_cell (j := 0) HC3.out rfl, fun k u hu => blk_cell (j := 0 + k) HL3.out (by rw [Nat.zero_add]; exact hu)⟩
  refine (Hid.out hK) _ _ (fun _ => hS3) ?_
  clear hK K
  (try simp only [Act.put]); (try simp only [LsA, Ls0, LsS])
  refine kTake 8 _ (by decide) rfl (by kernel_rfl) (by kernel_rfl) (by kernel_rfl) (fun _ _ _ h => h) rfl (fun wy => by first | (go_simp; done) | (go_simp; rfl) | rfl) (fun _ => hS3) ?_
  (try simp only [Act.put]); (try simp only [LsA, Ls0, LsS])
  have HB4 := hide (below_alloc4 w3 (.cells #[.int .i64 l.v, .int .u64 (l.c : Nat), .int .u64 (l.h : Nat), .string (nstr l.d), .slice ab b.length cb] 60))
  have HT4 : Hid ((w3.alloc (.cells #[.int .i64 l.v, .int .u64 (l.c : Nat), .int .u64 (l.h : Nat), .string (nstr l.d), .slice ab b.length cb] 60)).heap[w3.heap.size]? = some (.cells (bcs (l, b) (.slice ab b.length cb)) 60 (0, 0))) := heap_alloc_new w3 _
  have HL4 : Hid ((w3.alloc (.cells #[.int .i64 l.v, .int .u64 (l.c : Nat), .int .u64 (l.h : Nat), .string (nstr l.d), .slice ab b.length cb] 60)).heap[w.heap.size]? = some (.cells (lcs l) 41 (0, 0))) := blk_alloc _ HL3.out
  have HC4 : Hid ((w3.alloc (.cells #[.int .i64 l.v, .int .u64 (l.c : Nat), .int .u64 (l.h : Nat), .string (nstr l.d), .slice ab b.length cb] 60)).heap[sb]? = some (.cells #[.slice a1 C1.length p1] 37 (0, 0))) := blk_alloc _ HC3.out
  have HS4 := hide (HS3.out.next HB4.out)
  have HK4 : Hid (Kp (fun q => q = sb) w (w3.alloc (.cells #[.int .i64 l.v, .int .u64 (l.c : Nat), .int .u64 (l.h : Nat), .string (nstr l.d), .slice ab b.length cb] 60))) := HK3.out.trans (Kp.of_below (S := fun _ => False) HB4.out) (fun _ _ e => e.elim)
  have HY4 : Hid (Byv A (w3.alloc (.cells #[.int .i64 l.v, .int .u64 (l.c : Nat), .int .u64 (l.h : Nat), .string (nstr l.d), .slice ab b.length cb] 60)) (.slice ab b.length cb) b) := HBY.out.kp (Kp.of_below (S := fun _ => False) HB4.out) (fun _ _ e => e.elim)
  refine kStep 9 rfl (by kernel_rfl) (fun K hK => ?_)
  go_simp
  have hS4 : (w3.alloc (.cells #[.int .i64 l.v, .int .u64 (l.c : Nat), .int .u64 (l.h : Nat), .string (nstr l.d), .slice ab b.length cb] 60)).cell? ⟨sb, 0, none⟩ = some (.slice a1 C1.length p1) ∧ ∀ k u, (lcs l)[k]? = some u → (w3.alloc (.cells #[.int .i64 l.v, .int .u64 (l.c : Nat), .int .u64 (l.h : Nat), .string (nstr l.d), .slice ab b.length cb] 60)).cell? ⟨w.heap.size, 0 + k, none⟩ = some u := ⟨blk_cell (j := 0) HC4.out rfl, fun k u hu => blk_cell (j := 0 + k) HL4.out (by rw [Nat.zero_add]; exact hu)⟩
  refine (Hid.out hK) _ _ (fun _ => hS4) ?_
  clear hK K
  (try simp only [Act.put]); (try simp only [LsA, Ls0, LsS])
  have HON : Hid (∀ u ∈ (bcs (l, b) (.slice ab b.length cb)).toList, u.oneCell' = true) := fun u hu => by simp [bcs] at hu; rcases hu with rfl | rfl | rfl | rfl | rfl <;> rfl
  have HNK : Hid (C1.length ≤ 1000000) := by
    have h1 := HS4.out.n
    have h2 := len_wos S l
    have h3 := HN.out
    show _ ≤ _
    omega
  have HWB : Hid (A ≤ (w3.alloc (.cells #[.int .i64 l.v, .int .u64 (l.c : Nat), .int .u64 (l.h : Nat), .string (nstr l.d), .slice ab b.length cb] 60)).heap.size) := Nat.le_trans HA.out HK4.out.size
  clear HS3 HK3 HL3 HC3 HBY hS3 hS4 HB4
  generalize w3.alloc (.cells #[.int .i64 l.v, .int .u64 (l.c : Nat), .int .u64 (l.h : Nat), .string (nstr l.d), .slice ab b.length cb] 60) = w4 at *
  generalize w3.heap.size = g4 at *
  refine kStep 10 rfl (by kernel_rfl) (fun K hK => ?_)
  rw [if_pos (show Region.wanted _ _ = true from rfl)]
  refine wpop_append infoBk13 Tryz.underlying35 rfl (by decide) (by decide) rfl rfl HS4.out.o rfl HT4.out rfl HON.out HNK.out HWB.out ?_
  intro v5 w5 h6 h7 h8
  obtain ⟨a5, c5, hv5, -⟩ := own_formG h6
  subst hv5
  have hkg : Kp (fun q => (Value.slice a1 C1.length p1).ownBlock = some q) w4 w5 := (Kp.refl _ w4).grown h7 (fun q _ e => e)
  have HS5 := hide (HS4.out.app HY4.out ⟨HL.out, HBN.out⟩ h6 h7)
  have HC5 : Hid (w5.heap[sb]? = some (.cells #[.slice a1 C1.length p1] 37 (0, 0))) := (hkg.block _ (blk_lt HC4.out) (fun hq => own_typ13 HS4.out.o HC4.out (by decide) hq)).trans HC4.out
  have HL5 : Hid (w5.heap[w.heap.size]? = some (.cells (lcs l) 41 (0, 0))) := (hkg.block _ (blk_lt HL4.out) (fun hq => own_typ13 HS4.out.o HL4.out (by decide) hq)).trans HL4.out
  have hw0 : w.heap.size ≤ w0.heap.size := HB0.out.size
  have HK5 : Hid (Kp (fun q => q = sb) w w5) := HK4.out.trans hkg (fun q hq e => by have := HO1.out q e; omega)
  have HO5 : Hid (∀ q, (Value.slice a5 (C1.length + 1) c5).ownBlock = some q → w.heap.size ≤ q) := fun q hq => by
    rcases h8 with e | e
    · rw [e] at hq
      have := HO1.out q hq
      omega
    · rw [e] at hq
      rw [← Option.some.inj hq]
      exact HK4.out.size
  have hS5 : w5.cell? ⟨sb, 0, none⟩ = some (.slice a1 C1.length p1) ∧ ∀ k u, (lcs l)[k]? = some u → w5.cell? ⟨w.heap.size, 0 + k, none⟩ = some u := ⟨blk_cell (j := 0) HC5.out rfl, fun k u hu => blk_cell (j := 0 + k) HL5.out (by rw [Nat.zero_add]; exact hu)⟩
  clear h6 h7 h8 hkg HS4 HC4 HL4 HK4 HT4 HY4 HON HNK HWB
  refine (Hid.out hK) _ _ (fun _ => hS5) ?_
  clear hK K
  (try simp only [Act.put]); (try simp only [LsA, Ls0, LsS])
  refine kTake 11 _ (by decide) rfl (by kernel_rfl) (by kernel_rfl) (by kernel_rfl) (fun _ _ _ h => h) rfl (fun wy => by first | (go_simp; done) | (go_simp; rfl) | rfl) (fun _ => hS5) ?_
  (try simp only [Act.put]); (try simp only [LsA, Ls0, LsS])
  refine kTake 12 _ (by decide) rfl (by kernel_rfl) (by kernel_rfl) (by kernel_rfl) (fun _ _ _ h => h) rfl (fun wy => by first | (go_simp; done) | (go_simp; rfl) | rfl) (fun _ => hS5) ?_
  (try simp only [Act.put]); (try simp only [LsA, Ls0, LsS])
  have x5 := hS5.1
  have z5 := blk_frozen 0 HC5.out
  have HKS : Hid (Kp (fun q => q = sb) w5 (w5.setCell ⟨sb, 0, none⟩ (.slice a5 (C1.length + 1) c5))) := (Kp.refl _ w5).setCell _ _ (fun _ => rfl)
  have HCX : Hid ((w5.setCell ⟨sb, 0, none⟩ (.slice a5 (C1.length + 1) c5)).heap[sb]? = some (.cells #[.slice a5 (C1.length + 1) c5] 37 (0, 0))) := blk_set 0 _ HC5.out
  refine kStep 13 rfl (by kernel_rfl) (fun K hK => ?_)
  go_simp
  refine (Hid.out hK) _ _ (fun h => absurd h (by decide)) ?_
  clear hK K
  (try simp only [Act.put]); (try simp only [LsA, Ls0, LsS])
  refine kDone (by kernel_rfl) ?_
  go_wp2_with fail
  refine ⟨rfl, .tuple #[], results_none rfl _ _ _, rfl, ?_⟩
  exact ⟨_, _, HCX.out, HS5.out.kp HKS.out (fun q _ e => ⟨_, _, _, e ▸ HC5.out, by decide, by decide⟩), HK5.out.trans HKS.out (fun _ _ e => e), HO5.out⟩
end
section
open Go.RowKit Go
def zb5 : Array Value := #[.int .i64 0, .int .u64 0, .int .u64 0, .string ⟨#[]⟩, .slice none 0 0]
theorem wpop_storeRow {o : Oper} {a : Act} {K : Act → World → Prop} {Q : Exit → Act → World → Prop} {w : World} {T : TypeId} {p x : Operand} (ho : o.op = .store T p x) (g : Nat) (old cs : Array Value) (t : TypeId)
    (hp : a.eval p = .pointer (some ⟨g, 0, none⟩)) (hx : a.eval x = .agg cs) (hg : w.heap[g]? = some (.cells old t (0, 0))) (hi : (Tryz.prog.info? T).map (·.size) = some cs.size) (hn : old.size = cs.size) (h1 : cs.all (·.oneCell') = true)
    (h : K (a.put o.dst undef) (w.setRow g cs)) : Oper.wp Tryz.prog o a w K Q := by
  unfold Oper.wp execOp
  have hr : (Instr.storeAt T (.pointer (some ⟨g, 0, none⟩)) (.agg cs)).run Tryz.prog w = .ok () (w.setRow g cs) := by
    simp only [Instr.storeAt, Instr.sureAddr, Sem.run_bind, Sem.run_pure, Result.andThen]
    exact run_storeVar_row (P := Tryz.prog) w g t T old cs hg hi hn h1
  simp only [ho, Sem.run_bind, hp, hx, hr, Result.andThen_ok]
  exact h
theorem one5 (a : Int) (b c : Int) (s : ByteArray) (x : Option Addr) (i j : Nat) : (#[.int .i64 a, .int .u64 b, .int .u64 c, .string s, .slice x i j] : Array Value).all (·.oneCell') = true := by
  simp [Value.oneCell']
def CpbP (A : Nat) (p : Blk) (e : Ending) (w' : World) : Prop := ∃ va vc, e = .returned (.agg (bcs p (.slice va p.2.length vc))) ∧ Byv A w' (.slice va p.2.length vc) p.2
set_option maxRecDepth 1000000 in
set_option maxHeartbeats 4000000 in
theorem copyBlock13_any (w : World) (p : Blk) (vb : Value) (hb : BSl w vb p.2) (hn : p.2.length ≤ 140737488351232) : Calls Tryz.prog 41 #[.agg (bcs p vb)] w fun e w' => CpbP w.heap.size p e w' ∧ Below w.heap.size w w' := by
  obtain ⟨⟨ab, cb, rfl, -⟩, -⟩ := id hb
  have HBB := hide hb
  have HN := hide hn
  have HZ : ((w.alloc (.cells (bcs p (.slice ab p.2.length cb)) 60)).heap.size) = w.heap.size + 1 := by simp
  have HX0 : Hid (((w.alloc (.cells (bcs p (.slice ab p.2.length cb)) 60)).alloc (.cells zb5 60)).heap[w.heap.size]? = some (.cells (bcs p (.slice ab p.2.length cb)) 60 (0, 0))) := blk_alloc _ (heap_alloc_new w _)
  have HR0 : Hid (((w.alloc (.cells (bcs p (.slice ab p.2.length cb)) 60)).alloc (.cells zb5 60)).heap[w.heap.size + 1]? = some (.cells zb5 60 (0, 0))) := by
    have h := heap_alloc_new (w.alloc (.cells (bcs p (.slice ab p.2.length cb)) 60)) (.cells zb5 60)
    rw [HZ] at h
    exact h
  have HB0 : Hid (Below w.heap.size w ((w.alloc (.cells (bcs p (.slice ab p.2.length cb)) 60)).alloc (.cells zb5 60))) := (below_alloc4 w _).trans ((below_alloc4 _ _).mono (by rw [HZ]; omega))
  clear hb hn HZ
  unfold bcs zb5 at HX0 HR0 HB0
  unfold bcs
  go_enter Tryz.func41, Tryz.ntmps41
  go_upto_region 1 with fail
  generalize (w.alloc (.cells #[.int .i64 p.1.v, .int .u64 (p.1.c : Nat), .int .u64 (p.1.h : Nat), .string (nstr p.1.d), .slice ab p.2.length cb] 60)).alloc (.cells #[.int .i64 0, .int .u64 0, .int .u64 0, .string ⟨#[]⟩, .slice none 0 0] 60) = w0 at *
  refine kStart 6 7 (fun wy => wy.heap[w.heap.size]? = some (.cells #[.int .i64 p.1.v, .int .u64 (p.1.c : Nat), .int .u64 (p.1.h : Nat), .string (nstr p.1.d), .slice ab p.2.length cb] 60 (0, 0))) rfl (by kernel_rfl) ?_
  have hbd : Below w0.heap.size w0 w0.drew := by
    refine Below.drew ?_
    exact Below.refl _ _
  have HB1 : Hid (Below w.heap.size w w0.drew) := HB0.out.trans (hbd.mono HB0.out.size)
  have HR1 : Hid (w0.drew.heap[w.heap.size + 1]? = some (.cells #[.int .i64 0, .int .u64 0, .int .u64 0, .string ⟨#[]⟩, .slice none 0 0] 60 (0, 0))) := (hbd.block _ (blk_lt HR0.out)).trans HR0.out
  have hS : w0.drew.heap[w.heap.size]? = some (.cells #[.int .i64 p.1.v, .int .u64 (p.1.c : Nat), .int .u64 (p.1.h : Nat), .string (nstr p.1.d), .slice ab p.2.length cb] 60 (0, 0)) := (hbd.block _ (blk_lt HX0.out)).trans HX0.out
  clear hbd HB0 HR0 HX0
  generalize w0.drew = w1 at *
  refine kTake 0 _ (by decide) rfl (by kernel_rfl) (by kernel_rfl) (by kernel_rfl) (fun _ _ _ h => h) rfl (fun wy => by first | (go_simp; done) | (go_simp; rfl) | rfl) (fun _ => hS) ?_
  (try simp only [Act.put]); (try simp only [LsA, Ls0, LsS])
  refine kLoad 1 [5,6] _ (by decide) rfl (by kernel_rfl) (by kernel_rfl) (by kernel_rfl) (by kernel_rfl) (fun _ _ _ h => h) rfl hS (fun wy hy => exec_lkAtQ13 (l := p.1) rfl rfl (fun j u hu => blk_cell (j := 0 + j) hy (by rcases j with _ | _ | _ | _ | j; exact hu; exact hu; exact hu; exact hu; simp [lcs] at hu))) ?_
  (try simp only [Act.put]); (try simp only [LsA, Ls0, LsS])
  refine kTake 2 _ (by decide) rfl (by kernel_rfl) (by kernel_rfl) (by kernel_rfl) (fun _ _ _ h => h) rfl (fun wy => by first | (go_simp; done) | (go_simp; rfl) | rfl) (fun _ => hS) ?_
  (try simp only [Act.put]); (try simp only [LsA, Ls0, LsS])
  refine kLoad 3 [4,5,6] _ (by decide) rfl (by kernel_rfl) (by kernel_rfl) (by kernel_rfl) (by kernel_rfl) (fun _ _ _ h => h) rfl hS (fun wy hy => by have hy0 := blk_cell (j := 4) hy rfl; first | (go_simp; done) | (go_simp; rfl) | rfl) ?_
  (try simp only [Act.put]); (try simp only [LsA, Ls0, LsS])
  have HCP := hide (copy_any w1 (.slice ab p.2.length cb) p.2 (HBB.out.move (keep_below HB1.out)) HN.out)
  refine kStep 4 rfl (by kernel_rfl) (fun K hK => ?_)
  go_simp
  refine HCP.out.mono ?_
  rintro e w3 ⟨vb, rfl, hob, hb3⟩
  obtain ⟨ac, cc, rfl, -⟩ := own_formG hob
  have HBY : Hid (Byv w.heap.size w3 (.slice ac p.2.length cc) p.2) := ⟨BSl.own hob HBB.out.byte, fun q hq => by
    obtain ⟨cur, e⟩ := own_blk13 hob hq
    exact ⟨Nat.le_trans HB1.out.size (hob.lt q hq).1, cur, _, e⟩⟩
  have HB3 : Hid (Below w.heap.size w w3) := HB1.out.trans (hb3.mono HB1.out.size)
  have HR3 : Hid (w3.heap[w.heap.size + 1]? = some (.cells #[.int .i64 0, .int .u64 0, .int .u64 0, .string ⟨#[]⟩, .slice none 0 0] 60 (0, 0))) := (hb3.block _ (blk_lt HR1.out)).trans HR1.out
  have hS3 := (hb3.block _ (blk_lt hS)).trans hS
  clear hS HB1 HR1 HCP hob hb3
  refine (Hid.out hK) _ _ (fun _ => hS3) ?_
  clear hK K
  (try simp only [Act.put]); (try simp only [LsA, Ls0, LsS])
  refine kTake 5 _ (by decide) rfl (by kernel_rfl) (by kernel_rfl) (by kernel_rfl) (fun _ _ _ h => h) rfl (fun wy => by first | (go_simp; done) | (go_simp; rfl) | rfl) (fun _ => hS3) ?_
  (try simp only [Act.put]); (try simp only [LsA, Ls0, LsS])
  have HI := hide infoBq
  have HON := hide (one5 p.1.v (p.1.c : Nat) (p.1.h : Nat) (nstr p.1.d) ac p.2.length cc)
  have HK : Hid (Kp (fun q => q = w.heap.size + 1) w3 (w3.setRow (w.heap.size + 1) #[.int .i64 p.1.v, .int .u64 (p.1.c : Nat), .int .u64 (p.1.h : Nat), .string (nstr p.1.d), .slice ac p.2.length cc])) := row_kp _ _ _
  refine kStep 6 rfl (by kernel_rfl) (fun K hK => ?_)
  rw [if_pos (show Region.wanted _ _ = true from rfl)]
  refine wpop_storeRow rfl (w.heap.size + 1) _ #[.int .i64 p.1.v, .int .u64 (p.1.c : Nat), .int .u64 (p.1.h : Nat), .string (nstr p.1.d), .slice ac p.2.length cc] 60 rfl rfl HR3.out HI.out rfl HON.out ?_
  refine (Hid.out hK) _ _ (fun h => absurd h (by decide)) ?_
  clear hK K
  (try simp only [Act.put]); (try simp only [LsA, Ls0, LsS])
  refine kDone (by kernel_rfl) ?_
  go_wp2_with fail
  refine bodyPost_ret (v := .agg #[.int .i64 p.1.v, .int .u64 (p.1.c : Nat), .int .u64 (p.1.h : Nat), .string (nstr p.1.d), .slice ac p.2.length cc]) ((results_one (p := 2) (ty := 60) rfl _ _ _).trans (run_loadVar_row (P := Tryz.prog) _ (w.heap.size + 1) 60 60 #[.int .i64 p.1.v, .int .u64 (p.1.c : Nat), .int .u64 (p.1.h : Nat), .string (nstr p.1.d), .slice ac p.2.length cc] (0, 0) _ (row_same HR3.out) Tryz.underlying60 rfl HI.out)) rfl ⟨⟨ac, cc, rfl, HBY.out.kp HK.out (fun q _ e => ⟨_, _, _, e ▸ HR3.out, by decide⟩)⟩, HB3.out.trans (HK.out.below HB3.out.size (fun q e => by omega))⟩
theorem onb13 (x : Blk) (ab : Option Addr) (cb : Nat) : ∀ u ∈ (bcs x (.slice ab x.2.length cb)).toList, u.oneCell' = true := fun u hu => by simp [bcs] at hu; rcases hu with rfl | rfl | rfl | rfl | rfl <;> rfl
def CpsP (A : Nat) (X : List Blk) (e : Ending) (w' : World) : Prop := ∃ a n cap Cs, e = .returned (.slice a n cap) ∧ Suv A w' (.slice a n cap) Cs X
set_option maxRecDepth 1000000 in
set_option maxHeartbeats 4000000 in
theorem copyBlocks13_any (w : World) (vX : Value) (X : List Blk) (hX : KSl w vX X) (hn : X.length ≤ 1000000) : Calls Tryz.prog 17 #[vX] w fun e w' => CpsP w.heap.size X e w' ∧ Below w.heap.size w w' := by
  obtain ⟨⟨aX, cX, rfl, -⟩, -⟩ := id hX
  have HX := hide hX
  have HN := hide hn
  clear hX hn
  go_enter Tryz.func17, Tryz.ntmps17
  go_upto_region 3 with fail
  go_loopw [3, 4] (fun vm ii wx => ∃ (i : Nat) (Cm : List (Array Value)), i ≤ X.length ∧ ii = .int .i64 (i : Nat) ∧ Hid (Below w.heap.size w wx ∧ Suv w.heap.size wx vm Cm (X.take i))) (fun _ ii _ => X.length - (intOf ii).toNat)
  case atStart => exact ⟨0, [], by omega, rfl, Below.refl _ _, ⟨World.ownsRow_nil _ _ _ _, rfl, (fun _ _ _ h => by cases h), (fun _ h => by cases h)⟩⟩
  case round =>
    obtain ⟨i, Cm, hi, rfl, HW⟩ := hrel
    obtain ⟨am, cm, rfl, -⟩ := own_formG HW.out.2.o
    have h10 : (X.length : Int) ≤ 1000000 := by have := HN.out; omega
    by_cases hlt : i < X.length
    · have g1 : (i : Int) < (X.length : Int) := by omega
      obtain ⟨x, hx⟩ : ∃ x, X[i]? = some x := ⟨_, List.getElem?_eq_getElem hlt⟩
      obtain ⟨b, off, va, nx, vc, rfl, hbx, rfl, hlx, hxl, hcell⟩ := HX.out.at hx
      have HC : Hid (∀ k u, (bcs x (.slice va x.2.length vc))[k]? = some u → wr.cell? ⟨b, off + i * 5 + k, none⟩ = some u) := fun k u hu => keep_below HW.out.1 _ _ (hcell k u hu)
      have HCB := hide (copyBlock13_any wr x (.slice va x.2.length vc) (hbx.move (keep_below HW.out.1)) hxl)
      have HXX : Hid (Lkx x.1 ∧ x.2.length ≤ 140737488351232) := ⟨hlx, hxl⟩
      have HTK : Hid (X.take (i + 1) = X.take i ++ [x]) := by show _ = _; rw [List.take_add_one, hx]; rfl
      have HIB := hide infoBq
      have HAG : Hid (∀ w, (isAgg 60).run Tryz.prog w = .ok true w) := aggBq
      have HTL : Hid ((X.take i).length ≤ 1000000) := by have := HN.out; show _ ≤ _; rw [List.length_take]; omega
      clear hx hbx hlx hxl hcell
      generalize X.take i = T at *
      go_upto_region 4 with (first
        | (refine wpList_aggAt rfl rfl HIB.out HAG.out b (off + i * 5) (bcs x (.slice va x.2.length vc)) rfl rfl HC.out ?_)
        | (go_at_call 41; refine HCB.out.mono ?_; rintro e w3 ⟨⟨ab, cb, rfl, hby⟩, hb3⟩; unfold bcs)
        | (refine append_g infoBk13 Tryz.underlying35 rfl (by decide) (by decide) rfl rfl rfl (HW.out.2.next (hb3.trans ((below_alloc4 w3 (.cells (bcs x (.slice ab x.2.length cb)) 60)).mono hb3.size))).o rfl (heap_alloc_new w3 (.cells (bcs x (.slice ab x.2.length cb)) 60)) rfl (onb13 x ab cb) (by rw [HW.out.2.n]; exact HTL.out) (Nat.le_trans HW.out.1.size (Nat.le_trans hb3.size (below_alloc4 w3 _).size)) ?_; intro v5 w5 h6 h7 _; obtain ⟨a5, c5, hv5, -⟩ := own_formG h6; subst hv5))
      have hb4 : Below wr.heap.size wr (w3.alloc (.cells (bcs x (.slice ab x.2.length cb)) 60)) := hb3.trans ((below_alloc4 w3 _).mono hb3.size)
      have hw4 : w.heap.size ≤ wr.heap.size := HW.out.1.size
      have hS4 := HW.out.2.next hb4
      have hB4 : Below w.heap.size w (w3.alloc (.cells (bcs x (.slice ab x.2.length cb)) 60)) := HW.out.1.trans (hb4.mono hw4)
      have hY4 : Byv w.heap.size (w3.alloc (.cells (bcs x (.slice ab x.2.length cb)) 60)) (.slice ab x.2.length cb) x.2 := (hby.kp (Kp.of_below (S := fun _ => False) (below_alloc4 w3 _)) (fun _ _ e => e.elim)).mono hw4
      have HS5 := hide (hS4.app hY4 HXX.out h6 h7)
      have hkg : Kp (fun q => (Value.slice am Cm.length cm).ownBlock = some q) (w3.alloc (.cells (bcs x (.slice ab x.2.length cb)) 60)) w5 := (Kp.refl _ _).grown h7 (fun q _ e => e)
      have HB5 : Hid (Below w.heap.size w w5) := hB4.trans (hkg.below hB4.size (fun q hq => (hS4.o.lt q hq).1))
      clear hb4 hw4 hS4 hB4 hY4 hkg h6 h7 hby hb3
      go_wp2_with fail
      go_roundw
      case rel => exact ⟨i + 1, _, by omega, by go_num, HB5.out, by rw [HTK.out]; exact HS5.out⟩
      case measure => simp [intOf]; omega
    · have g1 : ¬ (i : Int) < (X.length : Int) := by omega
      have hi2 : i = X.length := by omega
      subst hi2
      rw [List.take_length] at HW
      go_wp2_with fail
      go_ret
      exact ⟨⟨am, _, cm, Cm, rfl, HW.out.2⟩, HW.out.1⟩
end
section
open Go.RowKit Go
set_option maxRecDepth 1000000 in
set_option maxHeartbeats 4000000 in
theorem there13_any (w : World) (g B r : Nat) (L : List Blk) (hT : Sto w g B r L) (hcb : ∀ wy, Kp (fun q => q = g) w wy → Cb wy) (sb A : Nat) (v : Value) (Cs : List (Array Value)) (S : List Blk) (hc : w.heap[sb]? = some (.cells #[v] 37 (0, 0))) (hS : Suv A w v Cs S) (hu : Sur S L) (hn : S.length ≤ 500000) : Calls Tryz.prog 24 #[.pointer (some ⟨sb, 0, none⟩), .pointer (some ⟨g, 0, none⟩)] w fun e w' => e = .returned (.bool true) ∧ Below w.heap.size w w' := by
  obtain ⟨a, cap, rfl, -⟩ := own_formG hS.o
  have HC := hide hc
  have HS := hide hS
  have HN := hide hn
  have HT := hide hT
  have HU := hide hu
  have HCB := hide hcb
  have HCN : Hid (Cs.length = S.length) := hS.n
  clear hc hS hn hT hu hcb
  go_enter Tryz.func24, Tryz.ntmps24
  go_upto_region 2 with fail
  go_loopw [5] (fun ii wx => ∃ i : Nat, i ≤ S.length ∧ ii = .int .i64 (i : Nat) ∧ Hid (Below w.heap.size w wx)) (fun ii _ => S.length - (intOf ii).toNat)
  case atStart => exact ⟨0, by omega, rfl, Below.refl _ _⟩
  case round =>
    obtain ⟨i, hi, rfl, HBw⟩ := hrel
    have h50 : (S.length : Int) ≤ 500000 := by have := HN.out; omega
    have r0 : wr.cell? ⟨sb, 0, none⟩ = some (.slice a S.length cap) := by
      have h := keep_below HBw.out _ _ (blk_cell (j := 0) HC.out rfl)
      rw [HCN.out] at h
      exact h
    by_cases hlt : i < S.length
    · have g1 : (i : Int) < (S.length : Int) := by omega
      obtain ⟨p, hp⟩ : ∃ p, S[i]? = some p := ⟨_, List.getElem?_eq_getElem hlt⟩
      obtain ⟨-, blk, va, vc, rfl, -, hby, hcell⟩ := HS.out.at hp
      have hpx := HS.out.x p (List.mem_of_getElem? hp)
      have HPX := hide hpx
      have HGR := hide (sur_get HU.out (List.mem_of_getElem? hp))
      have HBY : Hid (BSl wr (.slice va p.2.length vc) p.2) := hby.b.move (keep_below HBw.out)
      have HCE : Hid (∀ k u, (bcs p (.slice va p.2.length vc))[k]? = some u → wr.cell? ⟨blk, i * 5 + k, none⟩ = some u) := fun k u hu => keep_below HBw.out _ _ (hcell k u hu)
      have HQ1 : Hid (∀ k u, (lcs p.1)[k]? = some u → wr.cell? ⟨blk, i * 5 + k, none⟩ = some u) := fun k u h => by
        refine HCE.out k u ?_
        rcases k with _ | _ | _ | _ | k
        · exact h
        · exact h
        · exact h
        · exact h
        · simp [lcs] at h
      have HG := hide (get13_bel wr g B r L (HT.out.next HBw.out) p.1 hpx.1 (fun wy hy => HCB.out wy ((Kp.of_below HBw.out).trans hy (fun _ _ e => e))))
      rw [HGR.out] at HG
      clear hp hby hcell hpx
      go_upto_region 5 with (first
        | (refine wpList_lkAt rfl rfl blk (i * 5) p.1 rfl HQ1.out ?_)
        | (go_at_call 30; refine HG.out.mono ?_; rintro e w3 ⟨⟨v, rfl, hbv, hov⟩, hb3⟩))
      obtain ⟨⟨vv, vk, rfl, -⟩, -⟩ := id hbv
      have HBV := hide hbv
      have HB3 := hide hb3
      have cv1 : ∀ t : Ext w3, (convert 39 9 (.slice vv p.2.length vk)).run Tryz.prog t.w' = .ok (.string (nstr p.2)) t.w' := fun t => (HBV.out.move (keep_below t.h)).text
      have cv2 : ∀ t : Ext w3, (convert 39 9 (.slice va p.2.length vc)).run Tryz.prog t.w' = .ok (.string (nstr p.2)) t.w' := fun t => ((HBY.out.move (keep_below HB3.out)).move (keep_below t.h)).text
      have f0 : ∀ t : Ext w3, t.w'.cell? ⟨sb, 0, none⟩ = some (.slice (some ⟨blk, 0, none⟩) S.length cap) := fun t => keep_below t.h _ _ (keep_below HB3.out _ _ r0)
      have f1 : ∀ t : Ext w3, t.w'.cell? ⟨blk, i * 5 + 4, none⟩ = some (.slice va p.2.length vc) := fun t => keep_below t.h _ _ (keep_below HB3.out _ _ (HCE.out 4 _ rfl))
      have HNM : Hid (∀ (n : Int) (t : Ext w3), Calls Tryz.prog 8 #[.int .i64 n] t.w' fun e w' => e = .returned (.int .i64 n) ∧ ∃ t' : Ext w3, w' = t'.w') := fun n t => Calls.ext_same (num13_any t.w' n)
      clear hbv hov hb3 HBV HBY HCE HQ1 HG HGR r0
      refine region_ext (by kernel_rfl) (by kernel_rfl) ?_
      repeat (
        with_reducible refine wpQuiet_step (fun K hK => ?_)
        go_simp
        first
          | (with_reducible refine hK _ ?_; clear hK K)
          | (apply Exists.intro
             refine ⟨fun _ => ?_, hK _ ?_⟩
             (go_at_call 8; exact HNM.out _ _)
             clear hK K))
      refine wpQuiet_nil ?_
      rintro _ ⟨tq, rfl⟩
      have HTQ : Hid (Below w.heap.size w tq.w') := HBw.out.trans ((HB3.out.trans (tq.h.mono HB3.out.size)).mono HBw.out.size)
      go_wp2_with fail
      go_roundw
      case rel => exact ⟨i + 1, by omega, by go_num, HTQ.out⟩
      case measure => simp [intOf]; omega
    · have g1 : ¬ (i : Int) < (S.length : Int) := by omega
      go_wp2_with fail
      go_ret
      exact ⟨rfl, HBw.out⟩
end
section
open Go.ChangeShapes Go.WideShapes Go.ChangeAt Go.RowKit Go.Deep Go.Joins Go
theorem weight_le {H : Type} {t : TypeId} {d : DataW H} (h : (d.weights Tryz.prog t).all (· ≤ reachBytes) = true) {n : Nat} (hn : n ∈ d.weights Tryz.prog t) : n ≤ 140737488351232 := by
  have := List.all_eq_true.1 h n hn
  unfold reachBytes at this
  simpa using this
theorem weight_each {H : Type} {ts : List TypeId} {ds : List (DataW H)} (h : (DataW.weightsEach Tryz.prog ts ds).all (· ≤ reachBytes) = true) {j : Nat} {t : TypeId} {d : DataW H} (ht : ts[j]? = some t) (hd : ds[j]? = some d) : (d.weights Tryz.prog t).all (· ≤ reachBytes) = true :=
  List.all_eq_true.2 fun n hn => List.all_eq_true.1 h n (DataW.weights_mem_each ht hd n hn)
theorem bsl_open6 {H : Type} {enc : TypeId × Value → H} {w : World} {base fuel : Nat} {held : Bool} {v : Value} {x : DataW H × List MemPlace} (h : DataW.trod enc Tryz.prog w base (fun _ => true) held fuel 39 [v] = some x) (hW : (x.1.weights Tryz.prog 39).all (· ≤ reachBytes) = true) : ∃ xs, BSl w v xs ∧ xs.length ≤ 140737488351232 := by
  rcases open_ints Tryz.underlying39 Tryz.underlying5 Tryz.cells5 h with ⟨hcs, _⟩ | ⟨a, len, cap, zs, hcs, _, hl, hm, hz, hx, hcell, hwz⟩
  · injection hcs with hcs _
    subst hcs
    exact ⟨_, bsl_of_row none 0 0 [] (Nat.le_refl _) (Nat.zero_le _) rfl (by simp) (fun _ => rfl) (fun _ hh => by cases hh), by simp⟩
  · injection hcs with hcs _
    subst hcs
    simp only [if_true] at hz
    refine ⟨_, bsl_of_row (some a) len cap zs hl hm hz hwz (fun hh => by cases hh) (fun a' hh c hc => by cases hh; exact hcell c (by omega)), ?_⟩
    have h1 := weight_le hW (n := cap) (by rw [hx]; exact row_weight a len cap zs hz)
    have hlen : ((zs.take len).map Int.toNat).length = len := by simp; omega
    omega
theorem gsl_of {α : Type} {n : Nat} {P : World → α → Array Value → Prop} {w : World} {a : Addr} {len cap : Nat} [Inhabited α] (hn : 0 < n) (hP : ∀ x c, P w x c → c.size = n) (hl : len ≤ cap) (hm : len ≤ 140737488351232) (each : ∀ i, i < len → ∃ t cs', P w t cs' ∧ ∀ j u, cs'[j]? = some u → w.cell? ((a.add (i * n)).add j) = some u) : ∃ is, GSl n P w (.slice (some a) len cap) is := by
  have hch : ∀ i, ∃ t : α, i < len → ∃ cs', P w t cs' ∧ ∀ j u, cs'[j]? = some u → w.cell? ((a.add (i * n)).add j) = some u := fun i => by
    by_cases hi : i < len
    · obtain ⟨t, h⟩ := each i hi
      exact ⟨t, fun _ => h⟩
    · exact ⟨default, fun h => absurd h hi⟩
  obtain ⟨f, hf⟩ := Classical.axiomOfChoice hch
  have hln : ((List.range len).map f).length = len := by simp
  refine ⟨(List.range len).map f, ⟨some a, cap, by rw [hln], ⟨by rw [hln]; exact hl, fun h => by cases h⟩, ?_⟩, by rw [hln]; omega⟩
  by_cases hz : len = 0
  · exact .inl (by rw [hz]; rfl)
  · obtain ⟨b, off, spot⟩ := a
    have hspot : spot = none := by
      obtain ⟨t, cs', ht, hc⟩ := each 0 (by omega)
      have hs := hP t cs' ht
      have := hc 0 (cs'[0]'(by omega)) (Array.getElem?_eq_getElem _)
      simpa [Addr.add] using World.cell?_spot this
    subst hspot
    refine .inr ⟨b, off, rfl, fun i t hi => ?_⟩
    have hil : i < len := by
      have := (List.getElem?_eq_some_iff.1 hi).1
      omega
    rw [List.getElem?_map, List.getElem?_range hil] at hi
    injection hi with hi
    subst hi
    obtain ⟨cs', h1, h2⟩ := hf i hil
    refine ⟨cs', h1, fun j u hu => ?_⟩
    have := h2 j u hu
    rw [addr_add, addr_add] at this
    exact this
theorem gsl_open {H : Type} {enc : TypeId × Value → H} {α : Type} [Inhabited α] {n : Nat} {P : World → α → Array Value → Prop} {S T : TypeId} {w : World} {base fuel : Nat} {held : Bool} {v : Value} {x : DataW H × List MemPlace} (hS : Tryz.prog.underlying S = some (.slice T)) (hcT : Tryz.prog.cellsOf T = n) (hbT : 0 < Tryz.prog.bytesOf T) (hn : 0 < n) (hP : ∀ x c, P w x c → c.size = n)
    (one : ∀ (fuel : Nat) (cs : List Value) (x : DataW H × List MemPlace), DataW.trod enc Tryz.prog w base (fun _ => true) held fuel T cs = some x → (x.1.weights Tryz.prog T).all (· ≤ reachBytes) = true → ∃ t, P w t cs.toArray)
    (h : DataW.trod enc Tryz.prog w base (fun _ => true) held fuel S [v] = some x) (hW : (x.1.weights Tryz.prog S).all (· ≤ reachBytes) = true) : ∃ is, GSl n P w v is := by
  rcases DataW.trod_slice hS h with ⟨hcs, _⟩ | ⟨a, len, cap, elems, rest, m, hfm, hcs, hx9, hb, hl, hm, hlen2, hel, _, _⟩
  · injection hcs with hcs _
    subst hcs
    exact ⟨[], GSl.nil⟩
  · injection hcs with hcs _
    subst hcs
    have hm2 : len ≤ 140737488351232 := by
      have h1 := weight_le hW (n := ((elems.map (·.1)).length + (rest.map (·.1)).length) * Tryz.prog.bytesOf T) (by rw [hx9]; simp only [DataW.weights, hS]; exact List.mem_cons_self ..)
      rw [List.length_map] at h1
      have h2 : len * 1 ≤ (elems.length + (rest.map (·.1)).length) * Tryz.prog.bytesOf T := Nat.mul_le_mul (by omega) hbT
      omega
    have hwe : ∀ (i : Nat) (z : DataW H × List MemPlace), elems[i]? = some z → (z.1.weights Tryz.prog T).all (· ≤ reachBytes) = true := fun i z hz => List.all_eq_true.2 fun n hn => by
      refine List.all_eq_true.1 hW n ?_
      rw [hx9]
      simp only [DataW.weights, hS]
      exact List.mem_cons.2 (.inr (List.mem_append.2 (.inl (weights_all (List.mem_map.2 ⟨z, List.mem_of_getElem? hz, rfl⟩) n hn))))
    refine gsl_of hn hP hl hm2 fun i hi => ?_
    have h1 := hel i hi
    rw [hcT] at h1
    have h2 : ∃ z, elems[i]? = some z := ⟨elems[i]'(by omega), List.getElem?_eq_getElem (by omega)⟩
    obtain ⟨z, hz⟩ := h2
    rw [hz] at h1
    obtain ⟨cs', h3, h4⟩ := Option.bind_eq_some_iff.1 h1
    obtain ⟨t, ht⟩ := one m cs' z h4 (hwe i z hz)
    obtain ⟨_, hln, hcell⟩ := World.cells?_some h3
    refine ⟨t, cs'.toArray, ht, fun j u hu => ?_⟩
    rw [List.getElem?_toArray] at hu
    have hj : j < n := by
      have := (List.getElem?_eq_some_iff.1 hu).1
      omega
    rw [hcell j hj]
    exact hu
end
end Go.Proofs.YtnkghcndaafmoaaGreatDoor
