import Derived.Test.YtmcamdcgnegmmaaGreatDoorJj
import Derived.Deep.QuietTactic
import Derived.BigQuiet
import Derived.Test.YtmcamdcgnegmmaaGreatDoorJa
import Derived.Test.YtmcamdcgnegmmaaGreatDoorJb
import Derived.Maps.OwnSet
import Derived.Maps.OwnOps
import Derived.Lib.ConvBytes
import Derived.SliceStrings
import Derived.Lib.SmallJoins
import Derived.Test.YtmcamdcgnegmmaaGreatDoorJg
import Derived.Laws.CopyRow
import Derived.Lib.Overlaps
import Derived.Lib.AppendZerosOnto
import Derived.Lib.SliceRun
import Derived.Shelf.RegionOpenPlain
import Derived.Lib.EndianBits
import Derived.Test.YtmcamdcgnegmmaaGreatDoorJe
import Derived.Lib.ValidLaws
set_option maxRecDepth 1000000
set_option maxHeartbeats 16000000
namespace Go.Proofs.YtmcamdcgnegmmaaGreatDoor
section
open Go.RowKit Go
theorem blt_tr : ∀ (x y z : List Nat), x.length = y.length → y.length = z.length → blt x y = true → blt y z = true → blt x z = true
  | [], _, _, _, _, h, _ => by simp [blt] at h
  | _ :: _, [], _, h, _, _, _ => by simp at h
  | _ :: _, _ :: _, [], _, h, _, _ => by simp at h
  | a :: x, b :: y, c :: z, h1, h2, h3, h4 => by
    have ih := blt_tr x y z (by simpa using h1) (by simpa using h2)
    simp only [blt] at *
    by_cases e1 : a = b
    · by_cases e2 : b = c
      · rw [if_pos e1] at h3
        rw [if_pos e2] at h4
        rw [if_pos (by omega)]
        exact ih h3 h4
      · rw [if_neg e2] at h4
        rw [if_neg (by omega)]
        simp at *
        omega
    · rw [if_neg e1] at h3
      by_cases e2 : b = c
      · rw [if_neg (by omega)]
        simp at *
        omega
      · rw [if_neg e2] at h4
        simp at h3 h4
        rw [if_neg (by omega)]
        simp
        omega
theorem blt_nt : ∀ (x y z : List Nat), x.length = y.length → y.length = z.length → blt x y = false → blt y z = false → blt x z = false
  | [], _, _, _, _, _, _ => by simp [blt]
  | _ :: _, [], _, h, _, _, _ => by simp at h
  | _ :: _, _ :: _, [], _, h, _, _ => by simp at h
  | a :: x, b :: y, c :: z, h1, h2, h3, h4 => by
    have ih := blt_nt x y z (by simpa using h1) (by simpa using h2)
    simp only [blt] at *
    by_cases e1 : a = b
    · by_cases e2 : b = c
      · rw [if_pos e1] at h3
        rw [if_pos e2] at h4
        rw [if_pos (by omega)]
        exact ih h3 h4
      · rw [if_neg e2] at h4
        rw [if_neg (by omega)]
        simp at *
        omega
    · rw [if_neg e1] at h3
      by_cases e2 : b = c
      · rw [if_neg (by omega)]
        simp at *
        omega
      · rw [if_neg e2] at h4
        simp at h3 h4
        rw [if_neg (by omega)]
        simp
        omega
theorem bfr_self (x : List Nat) : bfr x x = false := by
  unfold bfr
  rw [if_pos rfl]
  exact blt_self x
theorem bfr_tr (x y z : List Nat) (h1 : bfr x y = true) (h2 : bfr y z = true) : bfr x z = true := by
  unfold bfr at *
  by_cases e1 : x.length = y.length
  · rw [if_pos e1] at h1
    by_cases e2 : y.length = z.length
    · rw [if_pos e2] at h2
      rw [if_pos (by omega)]
      exact blt_tr x y z e1 e2 h1 h2
    · rw [if_neg e2] at h2
      rw [if_neg (by omega)]
      simp at *
      omega
  · rw [if_neg e1] at h1
    by_cases e2 : y.length = z.length
    · rw [if_neg (by omega)]
      simp at *
      omega
    · rw [if_neg e2] at h2
      simp at h1 h2
      rw [if_neg (by omega)]
      simp
      omega
theorem bfr_nt (x y z : List Nat) (h1 : bfr x y = false) (h2 : bfr y z = false) : bfr x z = false := by
  unfold bfr at *
  by_cases e1 : x.length = y.length
  · rw [if_pos e1] at h1
    by_cases e2 : y.length = z.length
    · rw [if_pos e2] at h2
      rw [if_pos (by omega)]
      exact blt_nt x y z e1 e2 h1 h2
    · rw [if_neg e2] at h2
      rw [if_neg (by omega)]
      simp at *
      omega
  · rw [if_neg e1] at h1
    by_cases e2 : y.length = z.length
    · rw [if_neg (by omega)]
      simp at *
      omega
    · rw [if_neg e2] at h2
      simp at h1 h2
      rw [if_neg (by omega)]
      simp
      omega
end
section
open Go.RowKit Go
def blt9 (x y : ByteArray × Array Value) : Bool := bfr (sl x.1) (sl y.1)
theorem blt9_swo : Sort.SWO blt9 where
  irrefl _ := bfr_self _
  trans _ _ _ h1 h2 := bfr_tr _ _ _ h1 h2
  ntrans _ _ _ h1 h2 := bfr_nt _ _ _ h1 h2
theorem bykLen_any (w : World) (vk vi : Option Addr) (n m ck ci : Nat) : Calls Tryz.prog 181 #[.agg #[.slice vk n ck, .slice vi m ci]] w fun e w' => e = .returned (.int .i64 (n : Nat)) ∧ Below w.heap.size w w' := by
  go_enter Tryz.func181, Tryz.ntmps181
  go_wp2_with fail
  go_ret
  exact ⟨rfl, ((Kp.refl (fun _ => False) w).alloc _).below (Nat.le_refl _) (fun _ h => h.elim)⟩
theorem bykLess_any {lo kb ib ck ci : Nat} {w : World} {d : Array (ByteArray × Array Value)} (h : Byk lo kb ib ck ci w d) (i j : Nat) (hi : i < d.size) (hj : j < d.size) : Calls Tryz.prog 182 #[.agg #[.slice (some ⟨kb, 0, none⟩) d.size ck, .slice (some ⟨ib, 0, none⟩) d.size ci], .int .i64 (i : Nat), .int .i64 (j : Nat)] w fun e w' => e = .returned (.bool (blt9 d[i]! d[j]!)) ∧ Below w.heap.size w w' := by
  obtain ⟨n, hnd⟩ : ∃ n, n = d.size := ⟨_, rfl⟩
  obtain ⟨s, hs⟩ : ∃ s, s = (d[i]!).1 := ⟨_, rfl⟩
  obtain ⟨t, ht⟩ : ∃ t, t = (d[j]!).1 := ⟨_, rfl⟩
  obtain ⟨g, hg⟩ : ∃ g, g = w.heap.size := ⟨_, rfl⟩
  obtain ⟨w0, hw0⟩ : ∃ w0, w0 = w.alloc (.cells #[.slice (some ⟨kb, 0, none⟩) n ck, .slice (some ⟨ib, 0, none⟩) n ci] 94) := ⟨_, rfl⟩
  have h0 : Byk lo kb ib ck ci w0 d := h.kp (S := fun _ => False) (by rw [hw0]; exact (Kp.refl _ w).alloc _) id id
  have HB0 : Hid (Below w.heap.size w w0) := by rw [hw0]; exact ((Kp.refl (fun _ => False) w).alloc _).below (Nat.le_refl _) (fun _ h => h.elim)
  have hb0 : w0.heap[g]? = some (.cells #[.slice (some ⟨kb, 0, none⟩) n ck, .slice (some ⟨ib, 0, none⟩) n ci] 94 (0, 0)) := by
    rw [hw0, hg]
    unfold World.alloc
    simp only [Array.getElem?_push_size]
  obtain ⟨c1, -⟩ := h0.keyAt i hi
  obtain ⟨c2, -⟩ := h0.keyAt j hj
  have b1 := blk_cell (j := 0) (v := .slice (some ⟨kb, 0, none⟩) n ck) hb0 rfl
  rw [← hs] at c1
  rw [← ht] at c2
  rw [← hnd] at hi hj ⊢
  have HL : Hid (blt9 d[i]! d[j]! = bfr (sl s) (sl t)) := by show _ = _; rw [hs, ht]; rfl
  rw [HL.out]
  have gi : (i : Int) < (n : Int) := by omega
  have gj : (j : Int) < (n : Int) := by omega
  have HW0 := hide hw0
  have HG := hide hg
  clear h h0 hb0 hs ht hw0 hg hnd HL
  go_enter Tryz.func182, Tryz.ntmps182
  go_wp2_with fail
  rw [← HW0.out, ← HG.out]
  go_quiet ((go_at_call 67; exact Calls.quiet_of_same (before_any s t _)))
  go_wp2_with fail
  go_ret
  exact ⟨rfl, below_drewN HB0.out _⟩
def Bks (w0 : World) (lo M kb ib ck ci n : Nat) (w : World) (d : Array (ByteArray × Array Value)) : Prop := Byk lo kb ib ck ci w d ∧ d.size = n ∧ M ≤ w.heap.size ∧ Kp (fun q => q = kb ∨ q = ib) w0 w
theorem byk_srm {w0 : World} {lo M kb ib ck ci n : Nat} (hk : kb < M) (hi : ib < M) (hki : kb ≠ ib) (hM : M = w0.heap.size) : Srm 94 (.agg #[.slice (some ⟨kb, 0, none⟩) n ck, .slice (some ⟨ib, 0, none⟩) n ci]) 182 183 blt9 M (Bks w0 lo M kb ib ck ci n) where
  ml := fun _ => by kernel_rfl
  ms := fun _ => by kernel_rfl
  el := fun _ _ => by kernel_rfl
  es := fun _ _ => by kernel_rfl
  low h := h.2.2.1
  keep h hb := by
    have hkp : Kp (fun q => M ≤ q) _ _ := ⟨hb.os, hb.tape, hb.output, hb.size, fun k _ hk => hb.block k (by omega)⟩
    exact ⟨h.1.kp hkp (by omega) (by omega), h.2.1, Nat.le_trans h.2.2.1 hb.size, h.2.2.2.trans hkp (fun q hq e => by omega)⟩
  less i j h hi hj := by
    have h1 := h.2.1
    subst h1
    exact bykLess_any h.1 i j hi hj
  swap i j h hi hj := by
    have h1 := h.2.1
    subst h1
    refine (bykSwap_any h.1 i j hi hj hki).mono ?_
    rintro _ w' ⟨rfl, hb, hkp⟩
    exact ⟨rfl, ⟨hb.out, swp_size _ _ _, Nat.le_trans h.2.2.1 hkp.size, h.2.2.2.trans hkp (fun _ _ e => e)⟩, hkp.mono (fun q _ e => by rcases e with e | e <;> omega)⟩
theorem bykSort_any {w : World} {lo kb ib ck ci : Nat} {d : Array (ByteArray × Array Value)} (h : Byk lo kb ib ck ci w d) (hki : kb ≠ ib) (hsz : d.size < 4611686018427387904) : Calls Tryz.prog 46 #[.iface 94 (.agg #[.slice (some ⟨kb, 0, none⟩) d.size ck, .slice (some ⟨ib, 0, none⟩) d.size ci])] w fun e w' => e = .returned (.tuple #[]) ∧ Hid (∃ d', Byk lo kb ib ck ci w' d' ∧ Srd blt9 d d' ∧ Kp (fun q => q = kb ∨ q = ib) w w') := by
  refine (sortSort_any (gn := 181) (byk_srm (w0 := w) (lo := lo) (n := d.size) (h.k.lt kb rfl).2 (h.i.lt ib rfl).2 hki rfl) (fun _ => by kernel_rfl) (fun _ _ => by kernel_rfl) blt9_swo (d := d) ⟨h, rfl, Nat.le_refl _, Kp.refl _ w⟩ (bykLen_any w _ _ _ _ _ _) hsz).mono ?_
  rintro _ w' ⟨rfl, hd⟩
  obtain ⟨d', h1, h2⟩ := hd.out
  exact ⟨rfl, d', h1.1, h2, h1.2.2.2⟩
theorem bykSort_none (w : World) (vk vi : Option Addr) (ck ci m : Nat) : Calls Tryz.prog 46 #[.iface 94 (.agg #[.slice vk 0 ck, .slice vi m ci])] w fun e w' => e = .returned (.tuple #[]) ∧ Below w.heap.size w w' := by
  have mn : ∀ w, (method 342 94 (.agg #[.slice vk 0 ck, .slice vi m ci]) "Len").run Tryz.prog w = .ok (181, .agg #[.slice vk 0 ck, .slice vi m ci]) w := fun _ => by kernel_rfl
  have en : ∀ args w, (callFunc 181 args).run Tryz.prog w = .ok (.enter 181 args) w := fun _ _ => by kernel_rfl
  go_enter Tryz.func46, Tryz.ntmps46
  go_wp2_with fail
  refine (bykLen_any w _ _ _ _ _ _).mono ?_
  rintro _ w1 ⟨rfl, hb⟩
  go_wp2_with fail
  first
    | (go_end0; exact ⟨rfl, hb⟩)
    | exact bodyPost_ret (results_none rfl _ _ _) rfl ⟨rfl, hb⟩
end
section
open Go.RowKit Go
def memb (L : List ByteArray) (s : ByteArray) : Bool := L.any fun t => decide (t = s)
theorem memb_iff {L : List ByteArray} {s : ByteArray} : memb L s = true ↔ s ∈ L := by
  unfold memb
  rw [List.any_eq_true]
  exact ⟨fun ⟨x, h1, h2⟩ => by rw [← of_decide_eq_true h2]; exact h1, fun h => ⟨s, h, by simp⟩⟩
def kyl (s : ByteArray) : Go.Lit := .string s.data.toList
theorem kyl_ne {s t : ByteArray} (h : s ≠ t) : kyl s ≠ kyl t := fun e => h (by
  unfold kyl at e
  injection e with e
  obtain ⟨⟨l⟩⟩ := s
  obtain ⟨⟨m⟩⟩ := t
  simp only at e
  rw [e])
theorem keyS {s : ByteArray} (h : s.size ≤ 140737488351232) : keyOf Tryz.prog 9 (.string s) = some (kyl s) := WideMaps.keyOf_string_mk Tryz.underlying9 (by unfold maxLen; omega)
theorem isKeyL (s : ByteArray) : WideAt.IsKeyLit (kyl s) := trivial
theorem lawS : Maps.Keyed Tryz.prog 9 := Maps.string_keyed Tryz.underlying9
theorem zeroU (w : World) : (zeroValue 91).run Tryz.prog w = .ok (.agg #[]) w := by kernel_rfl
def Mtx (w : World) (B n : Nat) (L : List ByteArray) : Prop := L.Nodup ∧ ∃ D : DataW Unit, w.ownsMap Tryz.prog 9 unitElem B n D ∧ (∀ s, Maps.has D (kyl s) = memb L s) ∧ Maps.size D = L.length
theorem Mtx.made (w : World) : Mtx (w.alloc (.map #[] 0)) w.heap.size 0 [] := ⟨List.nodup_nil, .map [], World.ownsMap_made _ _ _ _, fun _ => rfl, rfl⟩
theorem Mtx.block {w w' : World} {B n : Nat} {L : List ByteArray} (h : Mtx w B n L) (hb : w'.heap[B]? = w.heap[B]?) : Mtx w' B n L := by
  obtain ⟨h0, D, ⟨es, clock, h1, h2⟩, h3⟩ := h
  exact ⟨h0, D, ⟨es, clock, hb.trans h1, h2⟩, h3⟩
theorem Mtx.lt {w : World} {B n : Nat} {L : List ByteArray} (h : Mtx w B n L) : B < w.heap.size := by
  obtain ⟨_, D, h1, _⟩ := h
  exact h1.lt
theorem Mtx.next {w w' : World} {B n : Nat} {L : List ByteArray} (h : Mtx w B n L) (hb : Below w.heap.size w w') : Mtx w' B n L := h.block (hb.block _ h.lt)
theorem Mtx.kp {w w' : World} {B n : Nat} {L : List ByteArray} {S : Nat → Prop} (h : Mtx w B n L) (hk : Kp S w w') (hs : ¬ S B) : Mtx w' B n L := h.block (hk.block _ h.lt hs)
theorem Mtx.look {w : World} {B n : Nat} {L : List ByteArray} (h : Mtx w B n L) {s : ByteArray} (hs : s.size ≤ 140737488351232) : (Instr.lookup 89 (.map (some B)) (.string s) true).run Tryz.prog w = .ok (.tuple #[.agg #[], .bool (memb L s)]) w := by
  obtain ⟨_, D, h1, h2, _⟩ := h
  obtain ⟨v, ps, hrun, hv⟩ := h1.look_ok lawS Tryz.underlying89 (zeroU w) unitElem_mk (keyS hs)
  obtain ⟨rfl, _⟩ := unitElem_inv hv
  rw [hrun, h2 s]
def putL (L : List ByteArray) (s : ByteArray) : List ByteArray := if memb L s = true then L else s :: L
theorem putL_mem {L : List ByteArray} {s t : ByteArray} : t ∈ putL L s ↔ t = s ∨ t ∈ L := by
  unfold putL
  split
  · rename_i h
    exact ⟨.inr, fun e => e.elim (fun e => by rw [e]; exact memb_iff.1 h) id⟩
  · exact List.mem_cons
theorem Mtx.put {w : World} {B n : Nat} {L : List ByteArray} (h : Mtx w B n L) {s : ByteArray} (hs : s.size ≤ 140737488351232) (hn : n < 140737488351232) :
    ∃ w', (Instr.mapUpdate 89 (.map (some B)) (.string s) (.agg #[])).run Tryz.prog w = .ok () w' ∧ Mtx w' B (n + 1) (putL L s) ∧ Kp (fun q => q = B) w w' := by
  obtain ⟨h0, D, h1, h2, h3⟩ := h
  obtain ⟨w', hrun, h4, h5⟩ := h1.update lawS Tryz.underlying89 (by unfold maxLen; omega) (keyS hs) unitElem_mk
  refine ⟨w', hrun, ⟨?_, _, h4, fun t => ?_, ?_⟩, ⟨h5.os, h5.tape, h5.output, h5.size, fun k hk hne => h5.block k hk (fun e => hne (by injection e))⟩⟩
  · unfold putL
    split
    · exact h0
    · rename_i hne
      exact List.nodup_cons.2 ⟨fun e => hne (memb_iff.2 e), h0⟩
  · by_cases ht : t = s
    · subst ht
      rw [Maps.has_put_same h1.isMap (isKeyL t)]
      exact (memb_iff.2 (putL_mem.2 (.inl rfl))).symm
    · rw [Maps.has_put_other (kyl_ne ht), h2 t]
      rw [Bool.eq_iff_iff, memb_iff, memb_iff, putL_mem]
      exact ⟨.inr, fun e => e.resolve_left ht⟩
  · rw [Maps.size_put (h1.tidy lawS), h2 s, h3]
    unfold putL
    cases memb L s
    · rfl
    · rfl

theorem Mtx.nocells {w : World} {B n : Nat} {L : List ByteArray} (h : Mtx w B n L) {g : Nat} {c : Array Value} {T : Nat} {f : Nat × Nat} (hg : w.heap[g]? = some (.cells c T f)) : g ≠ B := fun e => by
  obtain ⟨_, D, ⟨es, clock, h2, _⟩, _⟩ := h
  rw [e, h2] at hg
  cases hg
section
variable {ops : Array Oper} {rest : List Oper} {o : Oper} {a : Act} {Q : Exit → Act → World → Prop} {w : World}
theorem wpList_lookS (hgd : Region.wanted o (yielded ops a.tmps) = true) {m x : Operand} (ho : o.op = .lookup 89 m x true) {B n : Nat} {L : List ByteArray} {s : ByteArray} (hm : a.eval m = .map (some B)) (hx : a.eval x = .string s) (h : Mtx w B n L) (hs : s.size ≤ 140737488351232)
    (hK : wpList Tryz.prog ops Q rest (a.put o.dst (.tuple #[.agg #[], .bool (memb L s)])) w) : wpList Tryz.prog ops Q (o :: rest) a w := by
  refine wpList_wanted hgd fun K hK' => ?_
  unfold Oper.wp
  simp [execOp, ho, hm, hx, h.look hs, Result.andThen]
  exact hK' _ _ hK
theorem wpList_putS (hgd : Region.wanted o (yielded ops a.tmps) = true) {m x v : Operand} (ho : o.op = .mapUpdate 89 m x v) {B n : Nat} {L : List ByteArray} {s : ByteArray} (hm : a.eval m = .map (some B)) (hx : a.eval x = .string s) (hv : a.eval v = .agg #[]) (h : Mtx w B n L) (hs : s.size ≤ 140737488351232) (hn : n < 140737488351232)
    (hK : ∀ w', Mtx w' B (n + 1) (putL L s) → Kp (fun q => q = B) w w' → wpList Tryz.prog ops Q rest (a.put o.dst undef) w') : wpList Tryz.prog ops Q (o :: rest) a w := by
  refine wpList_wanted hgd fun K hK' => ?_
  obtain ⟨w', hrun, h1, h2⟩ := h.put hs hn
  unfold Oper.wp
  simp [execOp, ho, hm, hx, hv, hrun, Result.andThen]
  exact hK' _ _ (hK w' h1 h2)
end
end
section
open Go.RowKit Go
def tvk (k : Int) : Tv := .mk k false false 0 0 ⟨#[]⟩ [] ⟨0, 0, 0, []⟩ [] []
def lput (ns : List (Nat × Nat)) (i : Nat) (x : Nat × Nat) : List (Nat × Nat) := ns.take i ++ x :: ns.drop i
def lfal (ks : List ByteArray) (s : ByteArray) : Bool := match ks.getLast? with | none => false | some k => !bfr (sl k) (sl s)
def lkey (b : List Nat) (dp J op p : Nat) (ks : List ByteArray) (ns : List (Nat × Nat)) : Lx (ByteArray × List (Nat × Nat) × Nat) :=
  lbind (litem b dp p op) fun y => if y.1.m ≠ 3 then .error (95, p) else lbind (lallg stJ b dp J op y.2 y.1 ([], -1) (lnot y.2 y.1 ns)) fun x => if memb ks (nstr x.1.1) = true then .error (95, p) else if x.1.2 ≠ -1 then .error (95, x.1.2.toNat) else .ok (nstr x.1.1, (if lfal ks (nstr x.1.1) = true then lput x.2.1 (lnot y.2 y.1 ns).length (p, 4) else x.2.1), x.2.2)
def lents (f : Nat → List (Nat × Nat) → Lx (Tv × List (Nat × Nat) × Nat)) (b : List Nat) (dp J op : Nat) (h : HR) : Nat → Nat → List ByteArray → List Tv → List (Nat × Nat) → Lx ((List ByteArray × List Tv) × List (Nat × Nat) × Nat)
  | 0, _, _, _, _ => .error (0, 0)
  | j + 1, p, ks, ts, ns => if lmo b p h ks.length = true then lbind (lkey b dp J op p ks ns) fun x => lbind (f x.2.2 x.2.1) fun y => lents f b dp J op h j y.2.2 (ks ++ [x.1]) (ts ++ [y.1]) y.2.1 else .ok ((ks, ts), ns, lmp b p h)
def lsrt (ks : List ByteArray) (ts : List Tv) : List (ByteArray × Tv) := (ks.zip ts).mergeSort fun x y => !bfr (sl y.1) (sl x.1)
def loth (at' i n : Nat) (ns : List (Nat × Nat)) : Lx (Tv × List (Nat × Nat)) :=
  if i = 21 then .ok (.mk 2 true false 0 0 ⟨#[]⟩ [] ⟨0, 0, 0, []⟩ [] [], ns) else if i = 20 then .ok (tvk 2, ns) else if i = 22 then .ok (tvk 1, ns)
  else if i = 25 then (if n % 32768 < 31744 then .ok (.mk 4 false false 0 (sgl (nrw (hlf (n % 65536)))) ⟨#[]⟩ [] ⟨0, 0, 0, []⟩ [] [], ns ++ [(at', 3)]) else .error (95, at'))
  else if i = 26 then (if n % 2147483648 < 2139095040 then .ok (.mk 4 false false 0 (sgl (n % 4294967296)) ⟨#[]⟩ [] ⟨0, 0, 0, []⟩ [] [], ns ++ [(at', 3)]) else .error (95, at'))
  else if i = 27 then (if finb n = true then .ok (.mk 4 false false 0 n ⟨#[]⟩ [] ⟨0, 0, 0, []⟩ [] [], ns) else .error (95, at'))
  else .error (95, at')
def lmean (f : Nat → List (Nat × Nat) → Lx (Tv × List (Nat × Nat) × Nat)) (b : List Nat) (dp J op p : Nat) (x : HR × Nat) (ms : List (Nat × Nat)) : Lx (Tv × List (Nat × Nat) × Nat) :=
  if x.1.m = 0 then .ok (.mk 3 false false x.1.n 0 ⟨#[]⟩ [] ⟨0, 0, 0, []⟩ [] [], ms, x.2)
  else if x.1.m = 1 then .ok (.mk 3 false true x.1.n 0 ⟨#[]⟩ [] ⟨0, 0, 0, []⟩ [] [], ms, x.2)
  else if x.1.m = 2 then lbind (lallg (fun xs _ ys => xs ++ ys) b dp J op x.2 x.1 [] ms) fun y => .ok (.mk 6 false false 0 0 ⟨#[]⟩ y.1 ⟨0, 0, 0, []⟩ [] [], y.2.1, y.2.2)
  else if x.1.m = 3 then lbind (ltxt b dp J op x.2 x.1 ms) fun y => .ok (.mk 5 false false 0 0 (nstr y.1) [] ⟨0, 0, 0, []⟩ [] [], y.2.1, y.2.2)
  else if x.1.m = 4 then lbind (lits f b x.1 J x.2 [] ms) fun y => .ok (.mk 8 false false 0 0 ⟨#[]⟩ [] ⟨0, 0, 0, []⟩ [] y.1, y.2.1, y.2.2)
  else if x.1.m = 5 then lbind (lents f b dp J (op + 1) x.1 J x.2 [] [] ms) fun y => .ok (.mk 9 false false 0 0 ⟨#[]⟩ [] ⟨0, 0, 0, []⟩ ((lsrt y.1.1 y.1.2).map (·.1)) ((lsrt y.1.1 y.1.2).map (·.2)), y.2.1, y.2.2)
  else if x.1.m = 6 then lbind (llnk b dp J op p x.2 x.1.n ms) fun y => .ok (.mk 7 false false 0 0 ⟨#[]⟩ [] y.1 [] [], y.2.1, y.2.2)
  else lbind (loth p x.1.i x.1.n ms) fun y => .ok (y.1, y.2, x.2)
def ltree (b : List Nat) (dp J : Nat) : Nat → Nat → Nat → List (Nat × Nat) → Lx (Tv × List (Nat × Nat) × Nat)
  | 0, _, _, _ => .error (0, 0)
  | k + 1, p, op, ns => lbind (litem b dp p op) fun x => lmean (fun q ms => ltree b dp J k q (op + 1) ms) b dp J op p x (lnot x.2 x.1 ns)

structure Fol {α : Type} (b : List Nat) (p : Nat) (ns : List (Nat × Nat)) (q' : Nat) (r : Lx (α × List (Nat × Nat) × Nat)) : Prop where
  ok : ∀ x, r = .ok x → x.2.2 = q' ∧ x.2.1.length ≤ ns.length + 3 * (q' - p)
  bad : ∀ c q, r = .error (c, q) → c = 95 ∧ q < b.length
theorem Fol.yes {α : Type} {b : List Nat} {p : Nat} {ns : List (Nat × Nat)} {q' : Nat} {x : α × List (Nat × Nat) × Nat} (h1 : x.2.2 = q') (h2 : x.2.1.length ≤ ns.length + 3 * (q' - p)) : Fol b p ns q' (.ok x) := ⟨fun y e => by injection e with e; subst e; exact ⟨h1, h2⟩, fun _ _ e => (by cases e)⟩
theorem Fol.no {α : Type} {b : List Nat} {p : Nat} {ns : List (Nat × Nat)} {q' q : Nat} (h : q < b.length) : Fol (α := α) b p ns q' (.error (95, q)) := ⟨fun _ e => (by cases e), fun _ _ e => by injection e with e; injection e with e1 e2; subst e1 e2; exact ⟨rfl, h⟩⟩
theorem Fol.bind {α β : Type} {b : List Nat} {p p1 : Nat} {ns ms : List (Nat × Nat)} {q1 q' : Nat} {r : Lx (α × List (Nat × Nat) × Nat)} {g : α × List (Nat × Nat) × Nat → Lx (β × List (Nat × Nat) × Nat)} (h : Fol b p1 ms q1 r) (hg : ∀ x, r = .ok x → x.2.2 = q1 → x.2.1.length ≤ ms.length + 3 * (q1 - p1) → Fol b p ns q' (g x)) : Fol b p ns q' (lbind r g) := by
  cases r with
  | ok x => exact hg x rfl (h.ok x rfl).1 (h.ok x rfl).2
  | error e => exact ⟨fun _ e => (by cases e), fun c q e => h.bad c q (by injection e with e; rw [e])⟩
theorem piec_hd {b : List Nat} {dp mj p op : Nat} {x : HR × Nat} (h : lpiec b dp mj p op = .ok x) : p < x.2 ∧ p < b.length := by
  have hL := look_lkd b dp p op
  unfold lpiec lbind at h
  split at h
  · cases h
  · rename_i hd hl
    have h1 := hL.ok _ hl
    dsimp only at h
    split at h
    · cases h
    · injection h with h
      subst h
      exact ⟨by show p < p + hd.u; omega, h1.1⟩
theorem prtg_fol {σ : Type} (st : σ → Nat → List Nat → σ) (b : List Nat) (dp mj op : Nat) : ∀ (j p q' : Nat) (s : σ) (ns : List (Nat × Nat)), lpcs b dp mj op j p = .ok q' → ∃ x, lprtg st b dp mj op j p s ns = .ok x ∧ x.2.2 = q' ∧ p ≤ q' ∧ x.2.1.length ≤ ns.length + 2 * (q' - p)
  | 0, _, _, _, _, h => by cases h
  | j + 1, p, q', s, ns, h => by
    unfold lpcs at h
    unfold lprtg
    by_cases h1 : b[p]? = some 255
    · rw [if_pos h1] at h ⊢
      injection h with h
      exact ⟨_, rfl, h, by omega, by show ns.length ≤ _; omega⟩
    · rw [if_neg h1] at h ⊢
      cases hl : lpiec b dp mj p op with
      | error e => rw [hl] at h; cases h
      | ok x =>
        rw [hl] at h
        have h2 := (piec_hd hl).1
        obtain ⟨y, hy, h3, h4, h5⟩ := prtg_fol st b dp mj op j (x.2 + x.1.n) q' (st s p ((b.drop x.2).take x.1.n)) (lnot x.2 x.1 ns) h
        have h6 := not_len x.2 x.1 ns
        exact ⟨y, hy, h3, by omega, by omega⟩
def lstq (b : List Nat) (dp J op : Nat) (h : HR) (p q' : Nat) : Prop := (if h.i = 31 then lpcs b dp h.m op J p else .ok (p + h.n)) = .ok q'
theorem allg_fol {σ : Type} (st : σ → Nat → List Nat → σ) {b : List Nat} {dp J op p q' : Nat} {h : HR} (s : σ) (ns : List (Nat × Nat)) (hs : lstq b dp J op h p q') : ∃ x, lallg st b dp J op p h s ns = .ok x ∧ x.2.2 = q' ∧ p ≤ q' ∧ x.2.1.length ≤ ns.length + 2 * (q' - p) := by
  unfold lstq at hs
  unfold lallg
  by_cases h1 : h.i = 31
  · rw [if_pos h1] at hs ⊢
    exact prtg_fol st b dp h.m op J p q' s ns hs
  · rw [if_neg h1] at hs ⊢
    injection hs with hs
    exact ⟨_, rfl, hs, by omega, by show ns.length ≤ _; omega⟩
theorem jbad_at {b : List Nat} {z : Int} (h : z = -1 ∨ ∃ n : Nat, z = n ∧ n < b.length) {p : Nat} (hp : p < b.length) (ys : List Nat) : jbad z p ys = -1 ∨ ∃ n : Nat, jbad z p ys = n ∧ n < b.length := by
  unfold jbad
  split
  · exact .inr ⟨p, rfl, hp⟩
  · exact h
theorem prtg_at {b : List Nat} {dp mj op : Nat} : ∀ (j p : Nat) (s : List Nat × Int) (ns : List (Nat × Nat)) (x : (List Nat × Int) × List (Nat × Nat) × Nat), (s.2 = -1 ∨ ∃ n : Nat, s.2 = n ∧ n < b.length) → lprtg stJ b dp mj op j p s ns = .ok x → x.1.2 = -1 ∨ ∃ n : Nat, x.1.2 = n ∧ n < b.length
  | 0, _, _, _, _, _, h => by cases h
  | j + 1, p, s, ns, x, hs, h => by
    unfold lprtg at h
    by_cases h1 : b[p]? = some 255
    · rw [if_pos h1] at h
      injection h with h
      subst h
      exact hs
    · rw [if_neg h1] at h
      cases hl : lpiec b dp mj p op with
      | error e => rw [hl] at h; cases h
      | ok y =>
        rw [hl] at h
        exact prtg_at j _ _ _ x (jbad_at hs (piec_hd hl).2 _) h
theorem allg_at {b : List Nat} {dp J op p : Nat} {h : HR} {ns : List (Nat × Nat)} {x : (List Nat × Int) × List (Nat × Nat) × Nat} (hp : p - h.u < b.length) (hx : lallg stJ b dp J op p h ([], -1) ns = .ok x) : x.1.2 = -1 ∨ ∃ n : Nat, x.1.2 = n ∧ n < b.length := by
  unfold lallg at hx
  split at hx
  · exact prtg_at _ _ _ _ _ (.inl rfl) hx
  · injection hx with hx
    subst hx
    exact jbad_at (.inl rfl) hp _
theorem put_len (ns : List (Nat × Nat)) (i : Nat) (x : Nat × Nat) : (lput ns i x).length = ns.length + 1 := by
  unfold lput
  rw [List.length_append, List.length_cons, List.length_take, List.length_drop]
  omega
theorem tags_none {b : List Nat} {dp op J : Nat} {h : HR} {p : Nat} {y : HR × Nat} (hm : h.m ≠ 6) (hy : ltags b dp op J h p = .ok y) : y = (h, p) := by
  cases J with
  | zero => cases hy
  | succ j =>
    unfold ltags at hy
    rw [if_neg hm] at hy
    injection hy with hy
    exact hy.symm
theorem body_str {f : Nat → Lx Nat} {b : List Nat} {dp J op : Nat} {h : HR} {p q' : Nat} (hm : h.m = 2 ∨ h.m = 3) (hb : lbody f b dp J op (h, p) = .ok q') : lstq b dp J op h p q' := by
  unfold lbody at hb
  rw [if_pos hm] at hb
  exact hb
theorem skip_parts {b : List Nat} {dp J k p op q' : Nat} (h : lskip b dp J (k + 1) p op = .ok q') : ∃ x y, litem b dp p op = .ok x ∧ ltags b dp op J x.1 x.2 = .ok y ∧ lbody (fun q => lskip b dp J k q (op + 1)) b dp J op y = .ok q' := by
  unfold lskip at h
  cases h1 : litem b dp p op with
  | error e => rw [h1] at h; cases h
  | ok x =>
    rw [h1] at h
    change lbind (ltags b dp op J x.1 x.2) _ = _ at h
    cases h2 : ltags b dp op J x.1 x.2 with
    | error e => rw [h2] at h; cases h
    | ok y =>
      rw [h2] at h
      exact ⟨x, y, rfl, h2, h⟩
theorem item_at {b : List Nat} {dp p op : Nat} {x : HR × Nat} (h : litem b dp p op = .ok x) : p < x.2 ∧ x.2 ≤ b.length ∧ p < b.length ∧ x.2 - x.1.u < b.length ∧ Hdo b dp op x := by
  have hL := look_lkd b dp p op
  have h2 := (item_ris b dp p op).2 x h
  unfold litem lbind at h
  split at h
  · cases h
  · rename_i hd hl
    have h1 := hL.ok _ hl
    dsimp only at h
    split at h
    · cases h
    · injection h with h
      subst h
      exact ⟨by show p < p + hd.u; omega, by show p + hd.u ≤ _; omega, h1.1, by show p + hd.u - hd.u < _; omega, h2⟩
theorem key_fol {b : List Nat} {dp J k p op q' : Nat} (ks : List ByteArray) (ns : List (Nat × Nat)) (h : lskip b dp J k p op = .ok q') : Fol b p ns q' (lkey b dp J op p ks ns) := by
  cases k with
  | zero => cases h
  | succ k =>
    obtain ⟨x, y, h1, h2, h3⟩ := skip_parts h
    have ha := item_at h1
    unfold lkey
    rw [h1]
    show Fol b p ns q' (if x.1.m ≠ 3 then .error (95, p) else _)
    by_cases hm : x.1.m = 3
    · rw [if_neg (fun e => e hm)]
      have ey := tags_none (by omega) h2
      subst ey
      have hs := body_str (h := x.1) (p := x.2) (.inr hm) h3
      obtain ⟨z, hz, e1, e2, e3⟩ := allg_fol stJ ([], -1) (lnot x.2 x.1 ns) hs
      have h4 := not_len x.2 x.1 ns
      have h5 := allg_at ha.2.2.2.1 hz
      rw [hz]
      show Fol b p ns q' (if memb ks (nstr z.1.1) = true then .error (95, p) else _)
      split
      · exact Fol.no ha.2.2.1
      · split
        · rename_i h6
          obtain ⟨n, h7, h8⟩ := h5.resolve_left h6
          rw [h7]
          exact Fol.no h8
        · refine Fol.yes e1 ?_
          show List.length (if _ then _ else _) ≤ _
          split
          · rw [put_len]
            omega
          · omega
    · rw [if_pos hm]
      exact Fol.no ha.2.2.1
theorem txt_fol {b : List Nat} {dp J op p q' : Nat} {h : HR} (ns : List (Nat × Nat)) (hp : p - h.u < b.length) (hs : lstq b dp J op h p q') : Fol b p ns q' (ltxt b dp J op p h ns) := by
  obtain ⟨z, hz, e1, e2, e3⟩ := allg_fol stJ ([], -1) ns hs
  have h5 := allg_at hp hz
  unfold ltxt
  rw [hz]
  show Fol b p ns q' (if z.1.2 = -1 then _ else _)
  split
  · exact Fol.yes e1 (by show z.2.1.length ≤ _; omega)
  · rename_i h6
    obtain ⟨n, h7, h8⟩ := h5.resolve_left h6
    rw [h7]
    exact Fol.no h8
theorem lnk_fol {f : Nat → Lx Nat} {b : List Nat} {dp J op at' p q' n : Nat} {h : HR} {y : HR × Nat} (ns : List (Nat × Nat)) (hJ : 2 ≤ J) (hat : at' < b.length) (hm : h.m = 6) (h2 : ltags b dp op J h p = .ok y) (h3 : lbody f b dp J op y = .ok q') : Fol b p ns q' (llnk b dp J op at' p n ns) := by
  obtain ⟨j, rfl⟩ : ∃ j, J = j + 1 := ⟨J - 1, by omega⟩
  unfold ltags at h2
  rw [if_pos hm] at h2
  unfold llnk
  split
  · exact Fol.no hat
  · cases h1 : litem b dp p op with
    | error e => rw [h1] at h2; cases h2
    | ok x =>
      rw [h1] at h2
      replace h2 : ltags b dp op j x.1 x.2 = .ok y := h2
      have ha := item_at h1
      show Fol b p ns q' (if x.1.m ≠ 2 then .error (95, at') else _)
      by_cases hm2 : x.1.m = 2
      · rw [if_neg (fun e => e hm2)]
        have ey := tags_none (by omega) h2
        subst ey
        have hs := body_str (h := x.1) (p := x.2) (.inl hm2) h3
        obtain ⟨z, hz, e1, e2, e3⟩ := allg_fol (fun xs _ ys => xs ++ ys) [] (lnot x.2 x.1 ns) hs
        have h4 := not_len x.2 x.1 ns
        rw [hz]
        show Fol b p ns q' (if z.1.head? ≠ some 0 then _ else if _ then _ else _)
        split
        · exact Fol.no hat
        · split
          · exact Fol.no hat
          · exact Fol.yes e1 (by show z.2.1.length ≤ _; omega)
      · rw [if_pos hm2]
        exact Fol.no hat
def Folw (b : List Nat) (f : Nat → List (Nat × Nat) → Lx (Tv × List (Nat × Nat) × Nat)) (fs : Nat → Lx Nat) : Prop := ∀ q ms q', fs q = .ok q' → Fol b q ms q' (f q ms)
theorem its_fol {f : Nat → List (Nat × Nat) → Lx (Tv × List (Nat × Nat) × Nat)} {fs : Nat → Lx Nat} {b : List Nat} {h : HR} (hf : Folw b f fs) (hr : ∀ q q', q ≤ b.length → fs q = .ok q' → q < q' ∧ q' ≤ b.length) : ∀ (j p pe : Nat) (ts : List Tv) (ns : List (Nat × Nat)), p ≤ b.length → lins fs b h 1 j ts.length p = .ok pe → Fol b p ns pe (lits f b h j p ts ns) ∧ p ≤ pe
  | 0, _, _, _, _, _, h1 => by cases h1
  | j + 1, p, pe, ts, ns, hp, h1 => by
    cases hm : lmo b p h ts.length with
    | true =>
      obtain ⟨q1, h2, h3⟩ := lins_one hm h1
      have h4 := hr p q1 hp h2
      rw [lits_more hm]
      have h8 : p ≤ pe := by
        have h7 := (its_fol hf hr j q1 pe (ts ++ [tvk 0]) ns h4.2 (by rw [List.length_append, List.length_singleton]; exact h3)).2
        omega
      refine ⟨Fol.bind (hf p ns q1 h2) (fun x _ e1 e2 => ?_), h8⟩
      have h5 := its_fol hf hr j q1 pe (ts ++ [x.1]) x.2.1 h4.2 (by rw [List.length_append, List.length_singleton]; exact h3)
      have h6 := h5.2
      rw [e1]
      exact ⟨fun y e => ⟨(h5.1.ok y e).1, by have := (h5.1.ok y e).2; omega⟩, h5.1.bad⟩
    | false =>
      have h2 := ins_end9 fs b h 1 j ts.length p hm
      rw [h2] at h1
      rw [lits_end hm]
      injection h1 with h1
      have h3 : p ≤ lmp b p h := by
        unfold lmp lbp
        split
        · split <;> omega
        · omega
      exact ⟨Fol.yes h1 (by show ns.length ≤ _; omega), by omega⟩
theorem lins_two {fs : Nat → Lx Nat} {b : List Nat} {h : HR} {j n q pe : Nat} (hm : lmo b q h n = true) (h1 : lins fs b h 2 (j + 1) n q = .ok pe) : ∃ q1 q2, fs q = .ok q1 ∧ fs q1 = .ok q2 ∧ lins fs b h 2 j (n + 1) q2 = .ok pe := by
  rw [(ins_more9 fs b h 2 j n q hm).1] at h1
  have e : lturn fs 2 q = lbind (fs q) fun x => lbind (fs x) fun y => .ok y := rfl
  rw [e] at h1
  cases hf : fs q with
  | error e => rw [hf] at h1; cases h1
  | ok q1 =>
    rw [hf] at h1
    change lbind (lbind (fs q1) fun y => .ok y) _ = _ at h1
    cases hf2 : fs q1 with
    | error e => rw [hf2] at h1; cases h1
    | ok q2 => rw [hf2] at h1; exact ⟨q1, q2, rfl, hf2, h1⟩
theorem lents_more {f : Nat → List (Nat × Nat) → Lx (Tv × List (Nat × Nat) × Nat)} {b : List Nat} {dp J op : Nat} {h : HR} {j p : Nat} {ks : List ByteArray} {ts : List Tv} {ns : List (Nat × Nat)} (hm : lmo b p h ks.length = true) : lents f b dp J op h (j + 1) p ks ts ns = lbind (lkey b dp J op p ks ns) fun x => lbind (f x.2.2 x.2.1) fun y => lents f b dp J op h j y.2.2 (ks ++ [x.1]) (ts ++ [y.1]) y.2.1 := by
  show (if _ then _ else _) = _
  rw [if_pos hm]
theorem lents_end {f : Nat → List (Nat × Nat) → Lx (Tv × List (Nat × Nat) × Nat)} {b : List Nat} {dp J op : Nat} {h : HR} {j p : Nat} {ks : List ByteArray} {ts : List Tv} {ns : List (Nat × Nat)} (hm : lmo b p h ks.length = false) : lents f b dp J op h (j + 1) p ks ts ns = .ok ((ks, ts), ns, lmp b p h) := by
  show (if _ then _ else _) = _
  rw [if_neg (by rw [hm]; decide)]
theorem ents_fol {f : Nat → List (Nat × Nat) → Lx (Tv × List (Nat × Nat) × Nat)} {b : List Nat} {dp J k op : Nat} {h : HR} (hf : Folw b f (fun q => lskip b dp J k q op)) (hr : ∀ q q', q ≤ b.length → lskip b dp J k q op = .ok q' → q < q' ∧ q' ≤ b.length) : ∀ (j p pe : Nat) (ks : List ByteArray) (ts : List Tv) (ns : List (Nat × Nat)), p ≤ b.length → lins (fun q => lskip b dp J k q op) b h 2 j ks.length p = .ok pe → Fol b p ns pe (lents f b dp J op h j p ks ts ns) ∧ p ≤ pe
  | 0, _, _, _, _, _, _, h1 => by cases h1
  | j + 1, p, pe, ks, ts, ns, hp, h1 => by
    cases hm : lmo b p h ks.length with
    | true =>
      obtain ⟨q1, q2, h2, h2', h3⟩ := lins_two hm h1
      have h4 := hr p q1 hp h2
      have h4' := hr q1 q2 h4.2 h2'
      rw [lents_more hm]
      have h8 : p ≤ pe := by
        have h7 := (ents_fol hf hr j q2 pe (ks ++ [⟨#[]⟩]) (ts ++ [tvk 0]) ns h4'.2 (by rw [List.length_append, List.length_singleton]; exact h3)).2
        omega
      refine ⟨Fol.bind (key_fol ks ns h2) (fun x _ e1 e2 => ?_), h8⟩
      rw [e1]
      refine Fol.bind (hf q1 x.2.1 q2 h2') (fun y _ e3 e4 => ?_)
      have h5 := ents_fol hf hr j q2 pe (ks ++ [x.1]) (ts ++ [y.1]) y.2.1 h4'.2 (by rw [List.length_append, List.length_singleton]; exact h3)
      have h6 := h5.2
      rw [e3]
      exact ⟨fun z e => ⟨(h5.1.ok z e).1, by have := (h5.1.ok z e).2; omega⟩, h5.1.bad⟩
    | false =>
      have h2 := ins_end9 (fun q => lskip b dp J k q op) b h 2 j ks.length p hm
      rw [h2] at h1
      rw [lents_end hm]
      injection h1 with h1
      have h3 : p ≤ lmp b p h := by
        unfold lmp lbp
        split
        · split <;> omega
        · omega
      exact ⟨Fol.yes h1 (by show ns.length ≤ _; omega), by omega⟩
theorem oth_fol {b : List Nat} {at' i n : Nat} (ns : List (Nat × Nat)) (hat : at' < b.length) : (∀ x, loth at' i n ns = .ok x → x.2.length ≤ ns.length + 1) ∧ ∀ c q, loth at' i n ns = .error (c, q) → c = 95 ∧ q < b.length := by
  unfold loth
  repeat' split
  all_goals first
    | exact ⟨fun x e => by (injection e with e; subst e; simp), fun _ _ e => (by cases e)⟩
    | exact ⟨fun _ e => (by cases e), fun _ _ e => by (injection e with e; injection e with e1 e2; subst e1 e2; exact ⟨rfl, hat⟩)⟩
theorem tree_fol {b : List Nat} {dp J : Nat} (hJ : b.length + 1 ≤ J) : ∀ (k op p q' : Nat) (ns : List (Nat × Nat)), op ≤ dp → dp + 1 ≤ op + k → p ≤ b.length → lskip b dp J k p op = .ok q' → Fol b p ns q' (ltree b dp J k p op ns)
  | 0, _, _, _, _, _, _, _, h => by cases h
  | k + 1, op, p, q', ns, ho, hk, hp, h => by
    have hq := ((skip_ris b dp J hJ (k + 1) p op ho hk hp).ok q' h).2
    have hpq := ((skip_ris b dp J hJ (k + 1) p op ho hk hp).ok q' h).1
    obtain ⟨x, y, h1, h2, h3⟩ := skip_parts h
    have ha := item_at h1
    have h4 := not_len x.2 x.1 ns
    unfold ltree
    rw [h1]
    show Fol b p ns q' (lmean _ b dp J op p x (lnot x.2 x.1 ns))
    have hfin : ∀ {α : Type} (g : α → Tv) {r : Lx (α × List (Nat × Nat) × Nat)}, x.2 ≤ q' → Fol b x.2 (lnot x.2 x.1 ns) q' r → Fol b p ns q' (lbind r fun y => .ok (g y.1, y.2.1, y.2.2)) := fun g r h0 hr => Fol.bind hr (fun z _ e1 e2 => Fol.yes e1 (by show z.2.1.length ≤ _; omega))
    unfold lmean
    by_cases m0 : x.1.m = 0
    · rw [if_pos m0]
      have ey := tags_none (by omega) h2
      subst ey
      unfold lbody at h3
      rw [if_neg (by show ¬ (x.1.m = 2 ∨ x.1.m = 3); omega), if_neg (by show ¬ (x.1.m = 4 ∨ x.1.m = 5); omega)] at h3
      injection h3 with h3
      exact Fol.yes h3 (by show (lnot x.2 x.1 ns).length ≤ _; have : x.2 = q' := h3; omega)
    rw [if_neg m0]
    by_cases m1 : x.1.m = 1
    · rw [if_pos m1]
      have ey := tags_none (by omega) h2
      subst ey
      unfold lbody at h3
      rw [if_neg (by show ¬ (x.1.m = 2 ∨ x.1.m = 3); omega), if_neg (by show ¬ (x.1.m = 4 ∨ x.1.m = 5); omega)] at h3
      injection h3 with h3
      exact Fol.yes h3 (by show (lnot x.2 x.1 ns).length ≤ _; have : x.2 = q' := h3; omega)
    rw [if_neg m1]
    by_cases m2 : x.1.m = 2
    · rw [if_pos m2]
      have ey := tags_none (by omega) h2
      subst ey
      have hs := body_str (h := x.1) (p := x.2) (.inl m2) h3
      obtain ⟨z, hz, e1, e2, e3⟩ := allg_fol (fun xs _ ys => xs ++ ys) [] (lnot x.2 x.1 ns) hs
      rw [hz]
      exact Fol.yes e1 (by show z.2.1.length ≤ _; omega)
    rw [if_neg m2]
    by_cases m3 : x.1.m = 3
    · rw [if_pos m3]
      have ey := tags_none (by omega) h2
      subst ey
      have hs := body_str (h := x.1) (p := x.2) (.inr m3) h3
      obtain ⟨z, hz, e1, e2, e3⟩ := allg_fol (fun xs _ ys => xs ++ ys) [] (lnot x.2 x.1 ns) hs
      exact hfin (fun s => .mk 5 false false 0 0 (nstr s) [] ⟨0, 0, 0, []⟩ [] []) e2 (txt_fol _ ha.2.2.2.1 hs)
    rw [if_neg m3]
    by_cases m4 : x.1.m = 4
    · rw [if_pos m4]
      have ey := tags_none (by omega) h2
      subst ey
      unfold lbody at h3
      rw [if_neg (by show ¬ (x.1.m = 2 ∨ x.1.m = 3); omega), if_pos (by show (x.1.m = 4 ∨ x.1.m = 5); omega)] at h3
      replace h3 : lins (fun q => lskip b dp J k q (op + 1)) b x.1 (x.1.m - 3) J 0 x.2 = .ok q' := h3
      rw [show x.1.m - 3 = 1 from by omega] at h3
      have hod : op + 1 ≤ dp := by have := ha.2.2.2.2.n (.inl m4); omega
      have hi := its_fol (f := fun q ms => ltree b dp J k q (op + 1) ms) (fs := fun q => lskip b dp J k q (op + 1)) (h := x.1) (fun q ms q2 hq2 => tree_fol hJ k (op + 1) q q2 ms hod (by omega) (Nat.le_of_not_lt fun hlt => ?_) hq2) (fun q q2 hq1 hq2 => (skip_ris b dp J hJ k q (op + 1) hod (by omega) hq1).ok q2 hq2) J x.2 q' [] (lnot x.2 x.1 ns) ha.2.1 h3
      · exact hfin (fun s => .mk 8 false false 0 0 ⟨#[]⟩ [] ⟨0, 0, 0, []⟩ [] s) hi.2 hi.1
      · cases k with
        | zero => cases hq2
        | succ k =>
          obtain ⟨x2, y2, h6, -, -⟩ := skip_parts hq2
          have := (item_at h6).2.2.1
          omega
    rw [if_neg m4]
    by_cases m5 : x.1.m = 5
    · rw [if_pos m5]
      have ey := tags_none (by omega) h2
      subst ey
      unfold lbody at h3
      rw [if_neg (by show ¬ (x.1.m = 2 ∨ x.1.m = 3); omega), if_pos (by show (x.1.m = 4 ∨ x.1.m = 5); omega)] at h3
      replace h3 : lins (fun q => lskip b dp J k q (op + 1)) b x.1 (x.1.m - 3) J 0 x.2 = .ok q' := h3
      rw [show x.1.m - 3 = 2 from by omega] at h3
      have hod : op + 1 ≤ dp := by have := ha.2.2.2.2.n (.inr m5); omega
      have hi := ents_fol (f := fun q ms => ltree b dp J k q (op + 1) ms) (k := k) (op := op + 1) (h := x.1) (fun q ms q2 hq2 => tree_fol hJ k (op + 1) q q2 ms hod (by omega) (Nat.le_of_not_lt fun hlt => ?_) hq2) (fun q q2 hq1 hq2 => (skip_ris b dp J hJ k q (op + 1) hod (by omega) hq1).ok q2 hq2) J x.2 q' [] [] (lnot x.2 x.1 ns) ha.2.1 h3
      · exact hfin (fun s => .mk 9 false false 0 0 ⟨#[]⟩ [] ⟨0, 0, 0, []⟩ ((lsrt s.1 s.2).map (·.1)) ((lsrt s.1 s.2).map (·.2))) hi.2 hi.1
      · cases k with
        | zero => cases hq2
        | succ k =>
          obtain ⟨x2, y2, h6, -, -⟩ := skip_parts hq2
          have := (item_at h6).2.2.1
          omega
    rw [if_neg m5]
    by_cases m6 : x.1.m = 6
    · rw [if_pos m6]
      have hT := tags_riw b dp op J x.1 x.2 ha.2.1 (by omega) ha.2.2.2.2
      have hxq : x.2 ≤ q' := by
        have hy := hT.1.ok y h2
        have hb := body_riw (f := fun q => lskip b dp J k q (op + 1)) (fun hm q hq1 => skip_ris b dp J hJ k q (op + 1) (by have := (hT.2 y h2).1.n hm; omega) (by omega) hq1) hJ (hT.2 y h2).1 hy.2
        have := (hb.ok q' h3).1
        omega
      exact hfin (fun s => .mk 7 false false 0 0 ⟨#[]⟩ [] s [] []) hxq (lnk_fol _ (by omega) ha.2.2.1 m6 h2 h3)
    rw [if_neg m6]
    have ey := tags_none m6 h2
    subst ey
    unfold lbody at h3
    rw [if_neg (by show ¬ (x.1.m = 2 ∨ x.1.m = 3); omega), if_neg (by show ¬ (x.1.m = 4 ∨ x.1.m = 5); omega)] at h3
    injection h3 with h3
    have h5 := oth_fol (i := x.1.i) (n := x.1.n) (lnot x.2 x.1 ns) ha.2.2.1
    cases ho2 : loth p x.1.i x.1.n (lnot x.2 x.1 ns) with
    | ok z =>
      have := h5.1 z ho2
      exact Fol.yes h3 (by show z.2.length ≤ _; have : x.2 = q' := h3; omega)
    | error e =>
      obtain ⟨c, q⟩ := e
      obtain ⟨e1, e2⟩ := h5.2 c q ho2
      subst e1
      exact Fol.no e2
theorem ins_n {fs : Nat → Lx Nat} {b : List Nat} {h : HR} {t : Nat} (ht : 0 < t) (hr : ∀ q, q ≤ b.length → Ris b (fun x => x) q (fs q)) (hi : h.i ≠ 31) : ∀ (j n p pe : Nat), p ≤ b.length → n ≤ p → lins fs b h t j n p = .ok pe → h.n ≤ b.length
  | 0, _, _, _, _, _, h1 => by cases h1
  | j + 1, n, p, pe, hp, hn, h1 => by
    rw [lins_eq] at h1
    by_cases h2 : (if h.i = 31 then b[p]? ≠ some 255 else n < h.n)
    · rw [if_pos h2] at h1
      cases hl : lturn fs t p with
      | error e => rw [hl] at h1; cases h1
      | ok q =>
        rw [hl] at h1
        have h3 := (turn_ris hr t p hp ht).ok q hl
        exact ins_n ht hr hi j (n + 1) q pe h3.2 (by have : p < q := h3.1; omega) h1
    · rw [if_neg hi] at h2
      omega
end
section
open Go.RowKit Go
def dropN (ad : Option Addr) (n cap k : Nat) : Value := match ad with
  | none => .slice none 0 0
  | some p => if cap = k then .slice (some p) 0 0 else .slice (some (p.add (k * 2))) (n - k) (cap - k)
theorem sizeNt (w : World) : (sizeOf 55).run Tryz.prog w = .ok 2 w := by kernel_rfl
theorem exec_dropN {o : Oper} {a : Act} {x y : Operand} {w : World} {ad : Option Addr} {n cap k : Nat} (ho : o.op = .slice 42 x (some y) none none) (hx : a.eval x = .slice ad n cap) (hy : a.eval y = .int .i64 (k : Nat)) (hk : k ≤ n) (hn : n ≤ cap) (hz : ad = none → cap = 0) : (execOp a.eval o).run Tryz.prog w = .ok (.value (dropN ad n cap k)) w := by
  unfold execOp
  simp only [ho, Option.map_some, Option.map_none, hx, hy]
  clear ho
  have hki : (k : Int) ≤ (n : Int) := by omega
  have hkc : (k : Int) ≤ (cap : Int) := by omega
  have hsz := sizeNt
  cases ad with
  | none =>
    have hc0 := hz rfl
    have hn0 : n = 0 := by omega
    have hk0 : k = 0 := by omega
    subst hk0 hn0 hc0
    unfold dropN
    go_simp
  | some p =>
    unfold dropN
    by_cases hkk : cap = k
    · have hnk : n = k := by omega
      subst hkk hnk
      simp only [if_true]
      go_simp
    · have hkl : (k : Int) < (cap : Int) := by omega
      simp only [if_neg hkk]
      go_simp
theorem exec_takeN {o : Oper} {a : Act} {x y : Operand} {w : World} {ad : Option Addr} {n cap k : Nat} (ho : o.op = .slice 42 x none (some y) none) (hx : a.eval x = .slice ad n cap) (hy : a.eval y = .int .i64 (k : Nat)) (hn : k ≤ cap) : (execOp a.eval o).run Tryz.prog w = .ok (.value (.slice ad k cap)) w := by
  unfold execOp
  simp only [ho, Option.map_some, Option.map_none, hx, hy]
  clear ho
  have hkc : (k : Int) ≤ (cap : Int) := by omega
  have hsz := sizeNt
  go_simp
theorem run_copyN (w : World) (ty : TypeId) (g o dLen dCap : Nat) (a : Addr) (sLen sCap : Nat) (cur : Array Value) (t : TypeId) (cs : List Value)
    (hg : w.heap[g]? = some (.cells cur t (0, 0))) (hn : cs.length = Nat.min sLen dLen * 2)
    (hsrc : ∀ j v, cs[j]? = some v → w.cell? (a.add j) = some v) (hfit : o + cs.length ≤ cur.size) (h1 : ∀ v ∈ cs, v.oneCell' = true) :
    (Builtin.copy_ #[42, 42] ty #[.slice (some ⟨g, o, none⟩) dLen dCap, .slice (some a) sLen sCap]).run Tryz.prog w =
      .ok (goInt (Nat.min sLen dLen)) (w.setRow g (cur.toList.take o ++ cs ++ cur.toList.drop (o + cs.length)).toArray) := by
  have hl := run_loadCells_list (P := Tryz.prog) w a cs hsrc
  have hst := run_storeCells_at Tryz.prog g o t cs 0 cur w hg (by simpa using hfit) h1
  have hu := Tryz.underlying42
  have hsz := sizeNt
  simp [Builtin.copy_, run_underlying hu, Builtin.lenOf, Builtin.firstCells, hsz, ← hn, hl, hst]
theorem wpList_copyN {ops : Array Oper} {rest : List Oper} {o : Oper} {a : Act} {Q : Exit → Act → World → Prop} {w : World} (hgd : o.guard = none) (d s : Operand) (t t' : TypeId)
    (ho : o.op = .call { callee := .builtin .copy, args := #[d, s], argTypes := #[t, t'] }) (v u : Value) (hd : a.eval d = v) (hs : a.eval s = u) {v' : Value} {w' : World}
    (hr : (Builtin.copy_ #[t, t'] o.type #[v, u]).run Tryz.prog w = .ok v' w') (h : wpList Tryz.prog ops Q rest (a.put o.dst v') w') : wpList Tryz.prog ops Q (o :: rest) a w := by
  refine wpList_plain hgd fun K hK => ?_
  unfold Oper.wp execOp
  simp only [ho, resolve, invoke, builtin, Sem.run_bind, Sem.run_pure, Result.andThen_ok, List.map_toArray, List.map_cons, List.map_nil, hd, hs, hr]
  exact hK _ _ h
theorem step_copyN {ops : Array Oper} {o : Oper} {a : Act} {w : World} {K : Act → World → Prop} {Q : Exit → Act → World → Prop} {E : Prop}
    (hg : o.guard = none) (d x : Operand) (dT sT : TypeId) (hop : o.op = Op.call { callee := Callee.builtin Builtin.copy, args := #[d, x], argTypes := #[dT, sT] })
    (v u : Value) (hd : a.eval d = v) (hx : a.eval x = u) {v' : Value} {w' : World} (hr : (Builtin.copy_ #[dT, sT] o.type #[v, u]).run Tryz.prog w = .ok v' w') (hK : K (a.put o.dst v') w') :
    if Region.wanted o (yielded ops a.tmps) = true then Oper.wp Tryz.prog o a w K Q else E := by
  have hw : Region.wanted o (yielded ops a.tmps) = true := by simp [Region.wanted, hg]
  rw [if_pos hw]
  unfold Oper.wp
  simp [execOp, hop, resolve, invoke, builtin, hd, hx, hr, Result.andThen]
  exact hK

theorem gfl_cut {L : List (Array Value)} (h : ∀ c ∈ L, c.size = 2) (i : Nat) : (gfl L).take (i * 2) = gfl (L.take i) ∧ (gfl L).drop (i * 2) = gfl (L.drop i) := by
  induction L generalizing i with
  | nil => simp [gfl]
  | cons c r ih =>
    cases i with
    | zero => simp [gfl]
    | succ i =>
      have hc : c.toList.length = 2 := by simpa using h c (by simp)
      have h2 := ih (fun d hd => h d (by simp [hd])) i
      have e : gfl (c :: r) = c.toList ++ gfl r := by simp [gfl]
      rw [e, List.take_append, List.drop_append, hc, show (i + 1) * 2 - 2 = i * 2 from by omega, List.take_of_length_le (by omega), List.drop_of_length_le (by omega)]
      simp only [List.take_succ_cons, List.drop_succ_cons]
      rw [h2.1, h2.2]
      exact ⟨by simp [gfl], by simp⟩
theorem ntc_two (ns : List (Nat × Nat)) : ∀ c ∈ ns.map ntc, c.size = 2 := fun c hc => by
  obtain ⟨x, -, rfl⟩ := List.mem_map.1 hc
  rfl
theorem gfl_put (ns : List (Nat × Nat)) (i : Nat) (x : Nat × Nat) : gfl ((lput ns i x).map ntc) = (gfl (ns.map ntc)).take (i * 2) ++ (ntc x).toList ++ (gfl (ns.map ntc)).drop (i * 2) := by
  rw [(gfl_cut (ntc_two ns) i).1, (gfl_cut (ntc_two ns) i).2]
  unfold lput
  rw [List.map_append, List.map_cons, List.map_take, List.map_drop]
  simp [gfl]
theorem gfl_nlen (ns : List (Nat × Nat)) : (gfl (ns.map ntc)).length = ns.length * 2 := by
  induction ns with
  | nil => simp [gfl]
  | cons x r ih =>
    have e : gfl ((x :: r).map ntc) = (ntc x).toList ++ gfl (r.map ntc) := by simp [gfl]
    rw [e, List.length_append, ih, List.length_cons]
    simp [ntc]
    omega
theorem gfl_one (ns : List (Nat × Nat)) : ∀ v ∈ gfl (ns.map ntc), v.oneCell' = true := fun v hv => by
  induction ns with
  | nil => simp [gfl] at hv
  | cons x r ih =>
    have e : gfl ((x :: r).map ntc) = (ntc x).toList ++ gfl (r.map ntc) := by simp [gfl]
    rw [e, List.mem_append] at hv
    rcases hv with hv | hv
    · simp [ntc] at hv
      rcases hv with rfl | rfl <;> rfl
    · exact ih hv
theorem two_copies (cur cs xx : List Value) (i n : Nat) (hi : i ≤ n) (hcs : cs.length = n * 2 - i * 2) (hxx : xx.length = 2) (hl : (n + 1) * 2 ≤ cur.length) :
    ((((cur.take ((i + 1) * 2) ++ cs ++ cur.drop ((i + 1) * 2 + cs.length))).take (i * 2) ++ xx ++ (cur.take ((i + 1) * 2) ++ cs ++ cur.drop ((i + 1) * 2 + cs.length)).drop (i * 2 + xx.length))).take ((n + 1) * 2) = cur.take (i * 2) ++ xx ++ cs ∧ (((cur.take ((i + 1) * 2) ++ cs ++ cur.drop ((i + 1) * 2 + cs.length))).take (i * 2) ++ xx ++ (cur.take ((i + 1) * 2) ++ cs ++ cur.drop ((i + 1) * 2 + cs.length)).drop (i * 2 + xx.length)).length = cur.length := by
  have l1 : (cur.take ((i + 1) * 2)).length = (i + 1) * 2 := by rw [List.length_take]; omega
  have e1 : (cur.take ((i + 1) * 2) ++ cs ++ cur.drop ((i + 1) * 2 + cs.length)).take (i * 2) = cur.take (i * 2) := by
    rw [List.append_assoc, List.take_append_of_le_length (by rw [l1]; omega), List.take_take, Nat.min_eq_left (by omega)]
  have e2 : (cur.take ((i + 1) * 2) ++ cs ++ cur.drop ((i + 1) * 2 + cs.length)).drop (i * 2 + xx.length) = cs ++ cur.drop ((i + 1) * 2 + cs.length) := by
    rw [List.append_assoc, List.drop_append_of_le_length (by rw [l1]; omega), List.drop_of_length_le (by rw [l1]; omega), List.nil_append]
  rw [e1, e2]
  have l2 : (cur.take (i * 2)).length = i * 2 := by rw [List.length_take]; omega
  constructor
  · rw [← List.append_assoc, List.take_append_of_le_length (by rw [List.length_append, List.length_append, l2]; omega), List.take_of_length_le (by rw [List.length_append, List.length_append, l2]; omega)]
  · simp only [List.length_append, l2, List.length_drop]
    omega
def InsP (w : World) (N0 : Nat) (vn : Value) (ms : List (Nat × Nat)) (e : Ending) (w' : World) : Prop := ∃ v', e = .returned v' ∧ Hid (w'.ownsRow N0 55 2 v' ms.length (gfl (ms.map ntc)) ∧ Kp (fun q => vn.ownBlock = some q) w w' ∧ (v'.ownBlock = vn.ownBlock ∨ ∀ q, v'.ownBlock = some q → w.heap.size ≤ q))
theorem insert9_end {w : World} {N0 : Nat} {vn : Value} {ns : List (Nat × Nat)} (ho : w.ownsRow N0 55 2 vn ns.length (gfl (ns.map ntc))) {G : Nat} {x : Nat × Nat} (hG : w.heap[G]? = some (.cells (ntc x) 55 (0, 0))) (hN : N0 ≤ w.heap.size) (hn : ns.length ≤ 1000000) : Calls Tryz.prog 68 #[vn, .int .i64 (ns.length : Nat), .slice (some ⟨G, 0, none⟩) 1 1] w (InsP w N0 vn (lput ns ns.length x)) := by
  obtain ⟨a0, cap0, hvn, -⟩ := own_formG ho
  subst hvn
  have hcp : ns.length ≤ cap0 ∧ (a0 = none → cap0 = 0) := by
    rcases ho.2 with ⟨hv, _⟩ | ⟨g', cap', cur', hv, hb, hg', h1, h2, h3, h4⟩
    · injection hv with e1 e2 e3
      exact ⟨by omega, fun _ => e3⟩
    · injection hv with e1 e2 e3
      exact ⟨by omega, fun e => by rw [e1] at e; cases e⟩
  have HO : Hid (w.ownsRow N0 55 2 (.slice a0 ns.length cap0) (ns.map ntc).length (gfl (ns.map ntc))) := by rw [List.length_map]; exact ho
  have HG := hide hG
  have HE : Hid (lput ns ns.length x = ns ++ [x]) := by show lput _ _ _ = _; unfold lput; rw [List.take_length, List.drop_length]
  have HNN := hide hn
  have HN0 := hide hN
  obtain ⟨n, hnn⟩ : ∃ n, n = ns.length := ⟨_, rfl⟩
  have HNL : Hid (n = ns.length) := hnn
  rw [← hnn] at hcp HO ⊢
  have HCP := hide hcp
  clear ho hG hn hN hcp hnn
  go_enter Tryz.func68, Tryz.ntmps68
  go_wp2_with (first
    | (refine wpList_exec rfl (exec_dropN rfl rfl rfl (Nat.le_refl _) HCP.out.1 HCP.out.2) ?_)
    | (refine append_g infoNt3 Tryz.underlying42 rfl (by decide) (by decide) rfl rfl rfl HO.out rfl HG.out rfl (by intro u hu; simp [ntc] at hu; rcases hu with rfl | rfl <;> rfl) (by rw [List.length_map]; exact HNN.out) HN0.out ?_; intro v' w' h6 h7 h8))
  have HFN : Hid (w'.ownsRow N0 55 2 v' (lput ns n x).length (gfl ((lput ns n x).map ntc)) ∧ Kp (fun q => (Value.slice a0 n cap0).ownBlock = some q) w w' ∧ (v'.ownBlock = (Value.slice a0 n cap0).ownBlock ∨ ∀ q, v'.ownBlock = some q → w.heap.size ≤ q)) := by
    refine ⟨?_, kp_grown9 h7, h8.imp id (fun e q eq => ?_)⟩
    · have e := HE.out
      rw [← HNL.out] at e
      rw [e, List.length_append, List.length_singleton, List.map_append, List.map_singleton]
      rw [List.length_map] at h6
      exact h6
    · rw [e] at eq
      have := Option.some.inj eq
      omega
  obtain ⟨a1, cap1, hv1, -⟩ := own_formG h6
  subst hv1
  clear h6 h7 h8
  go_wp2_with fail
  first
    | (go_ret; exact ⟨_, rfl, HFN⟩)
    | exact bodyPost_ret (results_tmp (t := 6) rfl _ _ _) rfl ⟨_, rfl, HFN⟩
theorem overlapsN {w : World} {G G0 o la lb ca cb : Nat} {c0 : Array Value} {x : Nat × Nat} (hG : w.heap[G]? = some (.cells (ntc x) 55 (0, 0))) (hg : w.heap[G0]? = some (.cells c0 55 (0, 0))) (hne : G ≠ G0) (hc : c0.size ≠ 0) : (callFunc 90 #[.slice (some ⟨G, 0, none⟩) la ca, .slice (some ⟨G0, o, none⟩) lb cb]).run Tryz.prog w = .ok (.value (.bool false)) w := by
  rw [run_callFunc_extern Tryz.func90 (by kernel_rfl) (by kernel_rfl) (by kernel_rfl) (e := Extern.SlicesOverlaps.overlaps #[42, 42] #[4]) (by kernel_rfl),
    Lib.run_overlaps_apart w 42 4 55 Tryz.underlying42 2 sizeNt ⟨G, 0, none⟩ ⟨G0, o, none⟩ la ca lb cb hne 55 55 2 c0.size (by unfold World.shape?; rw [hG]; rfl) (by unfold World.shape?; rw [hg]) hc (blk_frozen 0 hG) (blk_frozen 2 hG)]
  rfl
theorem step_exN {ops : Array Oper} {o : Oper} {a : Act} {w : World} {K : Act → World → Prop} {Q : Exit → Act → World → Prop} {E : Prop} {v : Value}
    (hg : o.guard = none) (hr : (execOp a.eval o).run Tryz.prog w = .ok (.value v) w) (hK : K (a.put o.dst v) w) :
    if Region.wanted o (yielded ops a.tmps) = true then Oper.wp Tryz.prog o a w K Q else E := by
  have hw : Region.wanted o (yielded ops a.tmps) = true := by simp [Region.wanted, hg]
  rw [if_pos hw]
  unfold Oper.wp
  rw [hr]
  exact hK
theorem insert9_room {w : World} {N0 : Nat} {ns : List (Nat × Nat)} {G0 cap : Nat} {cur : Array Value} (hN : N0 ≤ G0) (hg : w.heap[G0]? = some (.cells cur 55 (0, 0))) (hcap : ns.length + 1 ≤ cap) (hmax : cap ≤ maxLen) (hcs : cur.size = cap * 2) (hxs : cur.toList.take (ns.length * 2) = gfl (ns.map ntc)) {G : Nat} {x : Nat × Nat} (hG : w.heap[G]? = some (.cells (ntc x) 55 (0, 0))) (hne : G ≠ G0) (i : Nat) (hi : i < ns.length) (hn : ns.length ≤ 1000000) : Calls Tryz.prog 68 #[.slice (some ⟨G0, 0, none⟩) ns.length cap, .int .i64 (i : Nat), .slice (some ⟨G, 0, none⟩) 1 1] w (InsP w N0 (.slice (some ⟨G0, 0, none⟩) ns.length cap) (lput ns i x)) := by
  obtain ⟨n, hnn⟩ : ∃ n, n = ns.length := ⟨_, rfl⟩
  rw [← hnn] at hcap hxs hi hn ⊢
  have hml : cap ≤ 140737488355328 ∨ True := .inr trivial
  obtain ⟨cs, hcs0⟩ : ∃ cs, cs = (gfl (ns.map ntc)).drop (i * 2) := ⟨_, rfl⟩
  have hcl : cs.length = n * 2 - i * 2 := by rw [hcs0, List.length_drop, gfl_nlen, ← hnn]
  have hcl2 : cs.length = (n - i) * 2 := by omega
  have hcc : ∀ j v, cs[j]? = some v → cur[i * 2 + j]? = some v := fun j v hj => by
    rw [hcs0, ← hxs, List.getElem?_drop] at hj
    have h2 : i * 2 + j < n * 2 := by
      have := (List.getElem?_eq_some_iff.1 hj).1
      rw [List.length_take] at this
      omega
    rw [List.getElem?_take_of_lt h2] at hj
    simpa using hj
  have h1c : ∀ v ∈ cs, v.oneCell' = true := fun v hv => gfl_one ns v (by rw [hcs0] at hv; exact List.mem_of_mem_drop hv)
  have h1x : ∀ v ∈ (ntc x).toList, v.oneCell' = true := fun v hv => by simp [ntc] at hv; rcases hv with rfl | rfl <;> rfl
  have hxl : (ntc x).toList.length = 2 := rfl
  have hcz : cur.toList.length = cap * 2 := by simpa using hcs
  have hgd : w.drew.heap[G0]? = some (.cells cur 55 (0, 0)) := hg
  have hGd : w.drew.heap[G]? = some (.cells (ntc x) 55 (0, 0)) := hG
  obtain ⟨c1, hc1⟩ : ∃ c1 : List Value, c1 = cur.toList.take ((i + 1) * 2) ++ cs ++ cur.toList.drop ((i + 1) * 2 + cs.length) := ⟨_, rfl⟩
  obtain ⟨W1, hW1⟩ : ∃ W1, W1 = w.drew.setRow G0 c1.toArray := ⟨_, rfl⟩
  have hcp1 : ∀ ty, (Builtin.copy_ #[42, 42] ty #[.slice (some ⟨G0, (i + 1) * 2, none⟩) (n - i) (cap - (i + 1)), .slice (some ⟨G0, i * 2, none⟩) (n + 1 - i) (cap - i)]).run Tryz.prog w.drew = .ok (goInt (Nat.min (n + 1 - i) (n - i))) W1 := fun ty => by
    rw [hW1, hc1]
    refine run_copyN w.drew ty G0 ((i + 1) * 2) (n - i) (cap - (i + 1)) ⟨G0, i * 2, none⟩ (n + 1 - i) (cap - i) cur 55 cs hgd (by rw [hcl2]; congr 1; show _ = min _ _; omega) (fun j v hj => ?_) (by omega) h1c
    have hadd : (⟨G0, i * 2, none⟩ : Addr).add j = ⟨G0, i * 2 + j, none⟩ := by unfold Addr.add; split <;> simp_all
    rw [hadd]
    exact blk_cell hgd (hcc j v hj)
  have hW1g : W1.heap[G0]? = some (.cells c1.toArray 55 (0, 0)) := by rw [hW1]; exact row_same hgd
  have hW1G : W1.heap[G]? = some (.cells (ntc x) 55 (0, 0)) := by rw [hW1, row_other hne]; exact hGd
  obtain ⟨c2, hc2⟩ : ∃ c2 : List Value, c2 = c1.take (i * 2) ++ (ntc x).toList ++ c1.drop (i * 2 + (ntc x).toList.length) := ⟨_, rfl⟩
  have htwo := two_copies cur.toList cs (ntc x).toList i n (by omega) hcl hxl (by omega)
  rw [← hc1, ← hc2] at htwo
  have hc1l : c1.length = cap * 2 := by
    rw [hc1]
    simp only [List.length_append, List.length_take, List.length_drop]
    omega
  have hcp2 : ∀ ty, (Builtin.copy_ #[42, 42] ty #[.slice (some ⟨G0, i * 2, none⟩) (n + 1 - i) (cap - i), .slice (some ⟨G, 0, none⟩) 1 1]).run Tryz.prog W1 = .ok (goInt 1) (W1.setRow G0 c2.toArray) := fun ty => by
    rw [hc2]
    have h := run_copyN W1 ty G0 (i * 2) (n + 1 - i) (cap - i) ⟨G, 0, none⟩ 1 1 c1.toArray 55 (ntc x).toList hW1g (by rw [hxl]; show _ = min _ _ * 2; omega) (fun j v hj => ?_) (by rw [List.size_toArray, hc1l, hxl]; omega) h1x
    · have e : Nat.min 1 (n + 1 - i) = 1 := by show min _ _ = _; omega
      rw [e] at h
      exact h
    · have hadd : (⟨G, 0, none⟩ : Addr).add j = ⟨G, 0 + j, none⟩ := by unfold Addr.add; split <;> simp_all
      rw [hadd, Nat.zero_add]
      exact blk_cell hW1G (by simpa using hj)
  have HFN : Hid ((W1.setRow G0 c2.toArray).ownsRow N0 55 2 (.slice (some ⟨G0, 0, none⟩) (n + 1) cap) (lput ns i x).length (gfl ((lput ns i x).map ntc)) ∧ Kp (fun q => (Value.slice (some ⟨G0, 0, none⟩) n cap).ownBlock = some q) w (W1.setRow G0 c2.toArray) ∧ ((Value.slice (some ⟨G0, 0, none⟩) (n + 1) cap).ownBlock = (Value.slice (some ⟨G0, 0, none⟩) n cap).ownBlock ∨ ∀ q, (Value.slice (some ⟨G0, 0, none⟩) (n + 1) cap).ownBlock = some q → w.heap.size ≤ q)) := by
    refine ⟨⟨by rw [gfl_nlen], .inr ⟨G0, cap, c2.toArray, by rw [put_len, ← hnn], hN, row_same hW1g, by rw [put_len, ← hnn]; exact hcap, hmax, ?_, ?_⟩⟩, ?_, .inl rfl⟩
    · rw [List.size_toArray, htwo.2, hcz]
    · rw [put_len, ← hnn, List.toList_toArray, htwo.1, gfl_put, hcs0]
      congr 2
      rw [← hxs, List.take_take, Nat.min_eq_left (by omega)]
    · have h1 : Kp (fun q => q = G0) w.drew (W1.setRow G0 c2.toArray) := by
        rw [hW1]
        exact (row_kp w.drew G0 c1.toArray).trans (row_kp _ G0 c2.toArray) (fun _ _ e => e)
      have h2 : Kp (fun q => q = G0) w w.drew := (Kp.refl (fun q => q = G0) w).drew
      exact (h2.trans h1 (fun _ _ e => e)).mono (fun q _ e => by rw [e]; rfl)
  have hov : ∀ lb cb, (callFunc 90 #[.slice (some ⟨G, 0, none⟩) 1 1, .slice (some ⟨G0, (i + 1) * 2, none⟩) lb cb]).run Tryz.prog w = .ok (.value (.bool false)) w := fun lb cb => overlapsN hG hg hne (by omega)
  have hz1 : ((i : Int) == (n : Int)) = false := by rw [beq_eq_false_iff_ne]; omega
  have hz2 : ¬ ((cap : Int) < (n : Int) + 1) := by omega
  have k1 : IntKind.i64.wrap ((n : Int) + 1) = ((n + 1 : Nat) : Int) := by rw [IntKind.wrap_i64]; omega
  have k2 : IntKind.i64.wrap ((i : Int) + 1) = ((i + 1 : Nat) : Int) := by rw [IntKind.wrap_i64]; omega
  have hin : i ≤ n := by omega
  have hb1 : (0 : Int) ≤ (i : Int) + 1 := by omega
  have hb2 : ¬ (cap = i + 1) := by omega
  have hb4 : ¬ (cap = i) := by omega
  have hb5 : (i : Int) ≤ (n : Int) + 1 := by omega
  have HLE : Hid (i ≤ n ∧ n ≤ cap ∧ n + 1 ≤ cap ∧ i + 1 ≤ n + 1 ∧ cap ≠ i ∧ cap ≠ i + 1 ∧ i ≤ n + 1) := ⟨by omega, by omega, by omega, by omega, by omega, by omega, by omega⟩
  have hd1 : dropN (some ⟨G0, 0, none⟩) (n + 1) cap (i + 1) = .slice (some ⟨G0, (i + 1) * 2, none⟩) (n + 1 - (i + 1)) (cap - (i + 1)) := by
    unfold dropN
    simp only [if_neg HLE.out.2.2.2.2.2.1, Addr.add_lit, Nat.zero_add]
  have hd2 : dropN (some ⟨G0, 0, none⟩) (n + 1) cap i = .slice (some ⟨G0, i * 2, none⟩) (n + 1 - i) (cap - i) := by
    unfold dropN
    simp only [if_neg HLE.out.2.2.2.2.1, Addr.add_lit, Nat.zero_add]
  have HD0 : Hid (∀ (o : Oper) (a : Act) (x y : Operand), o.op = .slice 42 x (some y) none none → a.eval x = .slice (some ⟨G0, 0, none⟩) n cap → a.eval y = .int .i64 (i : Nat) → (execOp a.eval o).run Tryz.prog w = .ok (.value (dropN (some ⟨G0, 0, none⟩) n cap i)) w) := fun o a x y h1 h2 h3 => exec_dropN h1 h2 h3 HLE.out.1 HLE.out.2.1 (fun h => by cases h)
  have HD1 : Hid (∀ (wz : World) (o : Oper) (a : Act) (x y : Operand), o.op = .slice 42 x (some y) none none → a.eval x = .slice (some ⟨G0, 0, none⟩) (n + 1) cap → a.eval y = .int .i64 ((i + 1 : Nat) : Int) → (execOp a.eval o).run Tryz.prog wz = .ok (.value (.slice (some ⟨G0, (i + 1) * 2, none⟩) (n + 1 - (i + 1)) (cap - (i + 1)))) wz) := fun wz o a x y h1 h2 h3 => by rw [← hd1]; exact exec_dropN h1 h2 h3 HLE.out.2.2.2.1 HLE.out.2.2.1 (fun h => by cases h)
  have HD2 : Hid (∀ (wz : World) (o : Oper) (a : Act) (x y : Operand), o.op = .slice 42 x (some y) none none → a.eval x = .slice (some ⟨G0, 0, none⟩) (n + 1) cap → a.eval y = .int .i64 (i : Nat) → (execOp a.eval o).run Tryz.prog wz = .ok (.value (.slice (some ⟨G0, i * 2, none⟩) (n + 1 - i) (cap - i))) wz) := fun wz o a x y h1 h2 h3 => by rw [← hd2]; exact exec_dropN h1 h2 h3 HLE.out.2.2.2.2.2.2 HLE.out.2.2.1 (fun h => by cases h)
  have HTK : Hid (∀ (o : Oper) (a : Act) (x y : Operand), o.op = .slice 42 x none (some y) none → a.eval x = .slice (some ⟨G0, 0, none⟩) n cap → a.eval y = .int .i64 ((n + 1 : Nat) : Int) → (execOp a.eval o).run Tryz.prog w = .ok (.value (.slice (some ⟨G0, 0, none⟩) (n + 1) cap)) w) := fun o a x y h1 h2 h3 => exec_takeN h1 h2 h3 HLE.out.2.2.1
  clear hnn hcap hmax hcs hxs hi hn hcs0 hcl hcl2 hcc h1c h1x hxl hcz hgd hGd hc1 hc2 htwo hc1l hd1 hd2 hml hN hg hG
  generalize dropN (some ⟨G0, 0, none⟩) n cap i = dv at *
  have HW1 := hide hW1
  have HCP1 := hide hcp1
  have HCP2 := hide hcp2
  clear hW1 hW1g hW1G hcp1 hcp2
  go_enter Tryz.func68, Tryz.ntmps68
  go_upto_region 15 with (first
    | (refine wpList_exec rfl (HD0.out _ _ _ _ rfl rfl rfl) ?_)
    | (refine wpList_exec rfl (HTK.out _ _ _ _ rfl rfl rfl) ?_)
    | (refine wpList_exec rfl (HD1.out _ _ _ _ _ rfl rfl rfl) ?_))
  have mixed : Tryz.prog.follows Departure.mixedOrders = true := by kernel_rfl
  go_region_law_o (first
    | (refine step_exN rfl (HD1.out _ _ _ _ _ rfl (by simp [Act.eval, Act.put]) (by simp [Act.eval, Act.put])) ?_)
    | (refine step_exN rfl (HD2.out _ _ _ _ _ rfl (by simp [Act.eval, Act.put]) (by simp [Act.eval, Act.put])) ?_)
    | (refine step_copyN rfl _ _ 42 42 rfl _ _ (by simp [Act.eval, Act.put]) (by simp [Act.eval, Act.put]) (HCP1.out _) ?_))
  go_wp2_with (first
    | (refine wpList_exec rfl (HD2.out _ _ _ _ _ rfl rfl rfl) ?_)
    | (refine wpList_copyN rfl _ _ 42 42 rfl _ _ rfl rfl (HCP2.out _) ?_))
  first
    | (go_ret; exact ⟨_, rfl, HFN⟩)
    | exact bodyPost_ret (results_tmp (t := 6) rfl _ _ _) rfl ⟨_, rfl, HFN⟩
end
section
open Go.RowKit Go
theorem grow_copies (c0 cs xx : List Value) (i n : Nat) (hi : i ≤ n) (hcs : cs.length = n * 2 - i * 2) (hxx : xx.length = 2) (hl : (n + 1) * 2 ≤ c0.length) :
    (((c0.take (i * 2) ++ xx ++ c0.drop (i * 2 + xx.length)).take ((i + 1) * 2) ++ cs ++ (c0.take (i * 2) ++ xx ++ c0.drop (i * 2 + xx.length)).drop ((i + 1) * 2 + cs.length))).take ((n + 1) * 2) = c0.take (i * 2) ++ xx ++ cs ∧ ((c0.take (i * 2) ++ xx ++ c0.drop (i * 2 + xx.length)).take ((i + 1) * 2) ++ cs ++ (c0.take (i * 2) ++ xx ++ c0.drop (i * 2 + xx.length)).drop ((i + 1) * 2 + cs.length)).length = c0.length ∧ (c0.take (i * 2) ++ xx ++ c0.drop (i * 2 + xx.length)).length = c0.length := by
  have l2 : (c0.take (i * 2)).length = i * 2 := by rw [List.length_take]; omega
  have l3 : (c0.take (i * 2) ++ xx).length = (i + 1) * 2 := by rw [List.length_append, l2]; omega
  have l4 : (c0.take (i * 2) ++ xx ++ c0.drop (i * 2 + xx.length)).length = c0.length := by
    simp only [List.length_append, l2, List.length_drop]
    omega
  have e1 : (c0.take (i * 2) ++ xx ++ c0.drop (i * 2 + xx.length)).take ((i + 1) * 2) = c0.take (i * 2) ++ xx := by
    rw [List.take_append_of_le_length (by rw [l3]; omega), List.take_of_length_le (by rw [l3]; omega)]
  refine ⟨?_, ?_, l4⟩
  · rw [e1, List.take_append_of_le_length (by rw [List.length_append, l3]; omega), List.take_of_length_le (by rw [List.length_append, l3]; omega)]
  · rw [e1, List.length_append, List.length_append, l3, List.length_drop, l4]
    omega
theorem infoNt4 : ∃ i, Tryz.prog.info? 55 = some i ∧ i.zero = some (.agg #[.int .i64 0, .int .i64 0]) ∧ i.size = 2 ∧ i.bytes = 16 := by
  have h := infoNt3
  cases hi : Tryz.prog.info? 55 with
  | none => rw [hi] at h; cases h
  | some i =>
    rw [hi] at h
    simp only [Option.map_some, Option.some.injEq, Prod.mk.injEq] at h
    exact ⟨i, rfl, h⟩
theorem insert9_grow {w : World} {N0 : Nat} {ns : List (Nat × Nat)} {G0 cap : Nat} {cur : Array Value} (hN : N0 ≤ w.heap.size) (hg : w.heap[G0]? = some (.cells cur 55 (0, 0))) (hcap : ns.length ≤ cap) (hroom : cap < ns.length + 1) (hxs : cur.toList.take (ns.length * 2) = gfl (ns.map ntc)) {G : Nat} {x : Nat × Nat} (hG : w.heap[G]? = some (.cells (ntc x) 55 (0, 0))) (i : Nat) (hi : i < ns.length) (hn : ns.length ≤ 1000000) : Calls Tryz.prog 68 #[.slice (some ⟨G0, 0, none⟩) ns.length cap, .int .i64 (i : Nat), .slice (some ⟨G, 0, none⟩) 1 1] w (InsP w N0 (.slice (some ⟨G0, 0, none⟩) ns.length cap) (lput ns i x)) := by
  obtain ⟨n, hnn⟩ : ∃ n, n = ns.length := ⟨_, rfl⟩
  rw [← hnn] at hcap hxs hi hn hroom ⊢
  obtain ⟨cs, hcs0⟩ : ∃ cs, cs = (gfl (ns.map ntc)).drop (i * 2) := ⟨_, rfl⟩
  have hcl : cs.length = n * 2 - i * 2 := by rw [hcs0, List.length_drop, gfl_nlen, ← hnn]
  have hcl2 : cs.length = (n - i) * 2 := by omega
  have hcc : ∀ j v, cs[j]? = some v → cur[i * 2 + j]? = some v := fun j v hj => by
    rw [hcs0, ← hxs, List.getElem?_drop] at hj
    have h2 : i * 2 + j < n * 2 := by
      have := (List.getElem?_eq_some_iff.1 hj).1
      rw [List.length_take] at this
      omega
    rw [List.getElem?_take_of_lt h2] at hj
    simpa using hj
  have h1c : ∀ v ∈ cs, v.oneCell' = true := fun v hv => gfl_one ns v (by rw [hcs0] at hv; exact List.mem_of_mem_drop hv)
  have h1x : ∀ v ∈ (ntc x).toList, v.oneCell' = true := fun v hv => by simp [ntc] at hv; rcases hv with rfl | rfl <;> rfl
  have hxl : (ntc x).toList.length = 2 := rfl
  obtain ⟨olds, hol⟩ : ∃ olds, olds = (gfl (ns.map ntc)).take (i * 2) := ⟨_, rfl⟩
  have holl : olds.length = i * 2 := by rw [hol, List.length_take, gfl_nlen, ← hnn]; omega
  obtain ⟨i5, hi5, hz0, hz1, hz2⟩ := infoNt4
  have hgd : w.drew.heap[G0]? = some (.cells cur 55 (0, 0)) := hg
  have hold : (Builtin.firstCells i5.size i (.slice (some ⟨G0, 0, none⟩) i cap)).run Tryz.prog w.drew = .ok olds.toArray w.drew := by
    rw [hz1]
    have h := run_loadCells_list (P := Tryz.prog) w.drew ⟨G0, 0, none⟩ olds (fun j v hj => by
      have hadd : (⟨G0, 0, none⟩ : Addr).add j = ⟨G0, 0 + j, none⟩ := by unfold Addr.add; split <;> simp_all
      rw [hadd, Nat.zero_add]
      refine blk_cell hgd ?_
      rw [hol, ← hxs, List.take_take, Nat.min_eq_left (by omega)] at hj
      have h2 : j < i * 2 := by
        have := (List.getElem?_eq_some_iff.1 hj).1
        rw [List.length_take] at this
        omega
      rw [List.getElem?_take_of_lt h2] at hj
      simpa using hj)
    rw [holl] at h
    exact h
  obtain ⟨Gc, hGc⟩ : ∃ Gc, Gc = grownCap w (n + 1) cap 55 := ⟨_, rfl⟩
  have hG1 : n + 1 ≤ Gc := by rw [hGc]; exact grownCap_ge w (n + 1) cap 55
  have hG2 : Gc ≤ maxLen := by rw [hGc]; exact grownCap_le_maxLen w (n + 1) cap 55 (by unfold maxLen; omega)
  obtain ⟨KK, hKK⟩ : ∃ KK, KK = n + 1 - i := ⟨_, rfl⟩
  obtain ⟨c0, hc0⟩ : ∃ c0 : Array Value, c0 = olds.toArray ++ Builtin.zeroCells (Value.agg #[.int .i64 0, .int .i64 0]).cells KK ++ Builtin.zeroCells (Value.agg #[.int .i64 0, .int .i64 0]).cells (Gc - (n + 1)) := ⟨_, rfl⟩
  have hc0l : c0.toList.length = Gc * 2 := by
    rw [hc0]
    simp [Builtin.zeroCells, Value.cells, holl]
    omega
  have hc0z : c0.size = Gc * 2 := by simpa using hc0l
  have hc0t : c0.toList.take (i * 2) = olds := by
    rw [hc0]
    simp only [Array.toList_append, List.append_assoc]
    rw [List.take_append_of_le_length (by rw [holl]; omega), List.take_of_length_le (by rw [holl]; omega)]
  obtain ⟨W0, hW0⟩ : ∃ W0, W0 = w.drew.alloc (.cells c0 55) := ⟨_, rfl⟩
  have e1 : (n : Int) + 1 - (i : Int) = (KK : Int) := by omega
  have hrz : ∀ ty, (Builtin.append_ #[42, 3] ty #[.slice (some ⟨G0, 0, none⟩) i cap, .int .i64 (KK : Int)]).run Tryz.prog w = .ok (.slice (some ⟨w.heap.size, 0, none⟩) (n + 1) Gc) W0 := fun ty => by
    have h := Lib.run_append_grow_zeros w 42 3 ty 55 i5 (.agg #[.int .i64 0, .int .i64 0]) .i64 .i64 Tryz.underlying42 Tryz.underlying3 hi5 hz0 (some ⟨G0, 0, none⟩) i cap olds hold (n + 1 - i) (by omega) (by rw [hz1]; omega) (by omega) (by omega) (by rw [hz2]; omega) (growslice_fits (by omega) (by rw [hz2]; omega))
    rw [← hKK] at h
    rw [show i + KK = n + 1 from by omega, ← hGc, ← hc0, ← hW0] at h
    exact h
  have hW0g : W0.heap[w.heap.size]? = some (.cells c0 55 (0, 0)) := by rw [hW0]; exact heap_alloc_new w.drew _
  have hbW0 : Below w.heap.size w W0 := by rw [hW0]; exact (Below.refl w.heap.size w).drew.alloc (Nat.le_refl _) _
  have hW0G : W0.heap[G]? = some (.cells (ntc x) 55 (0, 0)) := (hbW0.block _ (blk_lt hG)).trans hG
  have hW00 : W0.heap[G0]? = some (.cells cur 55 (0, 0)) := (hbW0.block _ (blk_lt hg)).trans hg
  have hgl := blk_lt hg
  obtain ⟨c1, hc1⟩ : ∃ c1 : List Value, c1 = c0.toList.take (i * 2) ++ (ntc x).toList ++ c0.toList.drop (i * 2 + (ntc x).toList.length) := ⟨_, rfl⟩
  obtain ⟨W1, hW1⟩ : ∃ W1, W1 = W0.setRow w.heap.size c1.toArray := ⟨_, rfl⟩
  have hgc := grow_copies c0.toList cs (ntc x).toList i n (by omega) hcl hxl (by omega)
  rw [← hc1] at hgc
  have hcp1 : ∀ ty, (Builtin.copy_ #[42, 42] ty #[.slice (some ⟨w.heap.size, i * 2, none⟩) (n + 1 - i) (Gc - i), .slice (some ⟨G, 0, none⟩) 1 1]).run Tryz.prog W0 = .ok (goInt 1) W1 := fun ty => by
    rw [hW1, hc1]
    have h := run_copyN W0 ty w.heap.size (i * 2) (n + 1 - i) (Gc - i) ⟨G, 0, none⟩ 1 1 c0 55 (ntc x).toList hW0g (by rw [hxl]; show _ = min _ _ * 2; omega) (fun j v hj => ?_) (by rw [hxl]; omega) h1x
    · have e : Nat.min 1 (n + 1 - i) = 1 := by show min _ _ = _; omega
      rw [e] at h
      exact h
    · have hadd : (⟨G, 0, none⟩ : Addr).add j = ⟨G, 0 + j, none⟩ := by unfold Addr.add; split <;> simp_all
      rw [hadd, Nat.zero_add]
      exact blk_cell hW0G (by simpa using hj)
  have hW1g : W1.heap[w.heap.size]? = some (.cells c1.toArray 55 (0, 0)) := by rw [hW1]; exact row_same hW0g
  have hW10 : W1.drew.heap[G0]? = some (.cells cur 55 (0, 0)) := by
    show W1.heap[G0]? = _
    rw [hW1, row_other (by omega)]
    exact hW00
  obtain ⟨c2, hc2⟩ : ∃ c2 : List Value, c2 = c1.take ((i + 1) * 2) ++ cs ++ c1.drop ((i + 1) * 2 + cs.length) := ⟨_, rfl⟩
  rw [← hc2] at hgc
  have hcp2 : ∀ ty, (Builtin.copy_ #[42, 42] ty #[.slice (some ⟨w.heap.size, (i + 1) * 2, none⟩) (n - i) (Gc - (i + 1)), .slice (some ⟨G0, i * 2, none⟩) (n - i) (cap - i)]).run Tryz.prog W1.drew = .ok (goInt (Nat.min (n - i) (n - i))) (W1.drew.setRow w.heap.size c2.toArray) := fun ty => by
    rw [hc2]
    refine run_copyN W1.drew ty w.heap.size ((i + 1) * 2) (n - i) (Gc - (i + 1)) ⟨G0, i * 2, none⟩ (n - i) (cap - i) c1.toArray 55 cs hW1g (by rw [hcl2]; congr 1; show _ = min _ _; omega) (fun j v hj => ?_) (by rw [List.size_toArray, hgc.2.2, hc0l]; omega) h1c
    have hadd : (⟨G0, i * 2, none⟩ : Addr).add j = ⟨G0, i * 2 + j, none⟩ := by unfold Addr.add; split <;> simp_all
    rw [hadd]
    exact blk_cell hW10 (hcc j v hj)
  have HFN : Hid ((W1.drew.setRow w.heap.size c2.toArray).ownsRow N0 55 2 (.slice (some ⟨w.heap.size, 0, none⟩) (n + 1) Gc) (lput ns i x).length (gfl ((lput ns i x).map ntc)) ∧ Kp (fun q => (Value.slice (some ⟨G0, 0, none⟩) n cap).ownBlock = some q) w (W1.drew.setRow w.heap.size c2.toArray) ∧ ((Value.slice (some ⟨w.heap.size, 0, none⟩) (n + 1) Gc).ownBlock = (Value.slice (some ⟨G0, 0, none⟩) n cap).ownBlock ∨ ∀ q, (Value.slice (some ⟨w.heap.size, 0, none⟩) (n + 1) Gc).ownBlock = some q → w.heap.size ≤ q)) := by
    refine ⟨⟨by rw [gfl_nlen], .inr ⟨w.heap.size, Gc, c2.toArray, by rw [put_len, ← hnn], hN, row_same (old := c1.toArray) hW1g, by rw [put_len, ← hnn]; exact hG1, hG2, ?_, ?_⟩⟩, ?_, .inr (fun q e => by cases e; exact Nat.le_refl _)⟩
    · rw [List.size_toArray, hgc.2.1, hc0l]
    · rw [put_len, ← hnn, List.toList_toArray, hgc.1, gfl_put, hc0t, hol, hcs0]
    · have h1 : Kp (fun q => q = w.heap.size) W0 W1 := by rw [hW1]; exact row_kp W0 _ c1.toArray
      have h2 : Kp (fun q => q = w.heap.size) W1 (W1.drew.setRow w.heap.size c2.toArray) := (Kp.refl (fun q => q = w.heap.size) W1).drew.trans (row_kp W1.drew _ c2.toArray) (fun _ _ e => e)
      exact (Kp.of_below (S := fun q => (Value.slice (some ⟨G0, 0, none⟩) n cap).ownBlock = some q) hbW0).trans (h1.trans h2 (fun _ _ e => e)) (fun q hq e => by omega)
  have hz1' : ((i : Int) == (n : Int)) = false := by rw [beq_eq_false_iff_ne]; omega
  have hz2' : (cap : Int) < (n : Int) + 1 := by omega
  have k1 : IntKind.i64.wrap ((n : Int) + 1) = ((n + 1 : Nat) : Int) := by rw [IntKind.wrap_i64]; omega
  have k2 : IntKind.i64.wrap ((i : Int) + 1) = ((i + 1 : Nat) : Int) := by rw [IntKind.wrap_i64]; omega
  have k3 : IntKind.i64.wrap (KK : Int) = (KK : Int) := by rw [IntKind.wrap_i64]; omega
  have k4 : IntKind.i64.wrap ((n : Int) + 1 - (i : Int)) = (KK : Int) := by rw [IntKind.wrap_i64]; omega
  have hin : i ≤ n := by omega
  have hb1 : (0 : Int) ≤ (i : Int) + 1 := by omega
  have hb2 : ¬ (Gc = i + 1) := by omega
  have hb4 : ¬ (cap = i) := by omega
  have hb6 : ¬ (Gc = i) := by omega
  have hb5 : (i : Int) ≤ (n : Int) + 1 := by omega
  have hb7 : ¬ ((KK : Int) < 0) := by omega
  have HLE : Hid (i ≤ n ∧ n ≤ cap ∧ i ≤ cap ∧ i ≤ n + 1 ∧ n + 1 ≤ Gc ∧ Gc ≠ i) := ⟨by omega, by omega, by omega, by omega, by omega, by omega⟩
  have hd2 : dropN (some ⟨w.heap.size, 0, none⟩) (n + 1) Gc i = .slice (some ⟨w.heap.size, i * 2, none⟩) (n + 1 - i) (Gc - i) := by
    unfold dropN
    simp only [if_neg HLE.out.2.2.2.2.2, Addr.add_lit, Nat.zero_add]
  have HD0 : Hid (∀ (o : Oper) (a : Act) (x y : Operand), o.op = .slice 42 x (some y) none none → a.eval x = .slice (some ⟨G0, 0, none⟩) n cap → a.eval y = .int .i64 (i : Nat) → (execOp a.eval o).run Tryz.prog w = .ok (.value (dropN (some ⟨G0, 0, none⟩) n cap i)) w) := fun o a x y h1 h2 h3 => exec_dropN h1 h2 h3 HLE.out.1 HLE.out.2.1 (fun h => by cases h)
  have HD2 : Hid (∀ (wz : World) (o : Oper) (a : Act) (x y : Operand), o.op = .slice 42 x (some y) none none → a.eval x = .slice (some ⟨w.heap.size, 0, none⟩) (n + 1) Gc → a.eval y = .int .i64 (i : Nat) → (execOp a.eval o).run Tryz.prog wz = .ok (.value (.slice (some ⟨w.heap.size, i * 2, none⟩) (n + 1 - i) (Gc - i))) wz) := fun wz o a x y h1 h2 h3 => by rw [← hd2]; exact exec_dropN h1 h2 h3 HLE.out.2.2.2.1 HLE.out.2.2.2.2.1 (fun h => by cases h)
  have HTK : Hid (∀ (o : Oper) (a : Act) (x y : Operand), o.op = .slice 42 x none (some y) none → a.eval x = .slice (some ⟨G0, 0, none⟩) n cap → a.eval y = .int .i64 (i : Nat) → (execOp a.eval o).run Tryz.prog w = .ok (.value (.slice (some ⟨G0, 0, none⟩) i cap)) w) := fun o a x y h1 h2 h3 => exec_takeN h1 h2 h3 HLE.out.2.2.1
  clear hnn hcap hroom hxs hi hn hcs0 hc0z hKK hcl hcl2 hcc h1c h1x hxl hol holl hi5 hz0 hz1 hz2 hgd hold hGc hG1 hG2 hc0 hc0l hc0t hW0g hbW0 hW0G hW00 hgl hc1 hgc hW1g hW10 hc2 hd2 hN hg hG
  generalize dropN (some ⟨G0, 0, none⟩) n cap i = dv at *
  have HW0 := hide hW0
  have HW1 := hide hW1
  have HCP1 := hide hcp1
  have HCP2 := hide hcp2
  have HRZ := hide hrz
  clear hW0 hW1 hcp1 hcp2 hrz
  go_enter Tryz.func68, Tryz.ntmps68
  go_upto_region 2 with (refine wpList_exec rfl (HD0.out _ _ _ _ rfl rfl rfl) ?_)
  go_upto_region 9 with fail
  go_upto_region 10 with (first
    | (refine wpList_exec rfl (HTK.out _ _ _ _ rfl rfl rfl) ?_)
    | (at_builtin; refine Lib.wpList_append_run _ rfl _ _ _ _ rfl _ _ rfl rfl _ _ (HRZ.out _) ?_))
  go_upto_region 11 with (first
    | (refine wpList_exec rfl (HD2.out _ _ _ _ _ rfl rfl rfl) ?_)
    | (refine wpList_copyN rfl _ _ 42 42 rfl _ _ rfl rfl (HCP1.out _) ?_))
  have mixed : Tryz.prog.follows Departure.mixedOrders = true := by kernel_rfl
  go_region_law_o (first
    | (refine step_copyN rfl _ _ 42 42 rfl _ _ (by simp [Act.eval, Act.put]) (by simp [Act.eval, Act.put]) (HCP2.out _) ?_))
  go_wp2_with fail
  first
    | (go_ret; exact ⟨_, rfl, HFN⟩)
    | exact bodyPost_ret (results_tmp (t := 6) rfl _ _ _) rfl ⟨_, rfl, HFN⟩
theorem insert9_any {w : World} {N0 : Nat} {vn : Value} {ns : List (Nat × Nat)} (ho : w.ownsRow N0 55 2 vn ns.length (gfl (ns.map ntc))) {G : Nat} {x : Nat × Nat} (hG : w.heap[G]? = some (.cells (ntc x) 55 (0, 0))) (hne : vn.ownBlock ≠ some G) (hN : N0 ≤ w.heap.size) (i : Nat) (hi : i ≤ ns.length) (hn : ns.length ≤ 1000000) : Calls Tryz.prog 68 #[vn, .int .i64 (i : Nat), .slice (some ⟨G, 0, none⟩) 1 1] w (InsP w N0 vn (lput ns i x)) := by
  by_cases he : i = ns.length
  · subst he
    exact insert9_end ho hG hN hn
  · rcases id ho.2 with ⟨hv, h0⟩ | ⟨g', cap', cur', hv, hb, hg', h1, h2, h3, h4⟩
    · omega
    · subst hv
      by_cases hr : ns.length + 1 ≤ cap'
      · exact insert9_room hb hg' hr h2 h3 h4 hG (fun e => hne (by rw [e]; rfl)) i (by omega) hn
      · exact insert9_grow hN hg' h1 (by omega) h4 hG i (by omega) hn
end
section
open Go.RowKit Go
def wrd9 (ys : List Nat) : Nat := ys.getD 0 0 + 256 * ys.getD 1 0 + 65536 * ys.getD 2 0 + 16777216 * ys.getD 3 0 + 4294967296 * ys.getD 4 0 + 1099511627776 * ys.getD 5 0 + 281474976710656 * ys.getD 6 0 + 72057594037927936 * ys.getD 7 0
theorem wrd9_lt (ys : List Nat) (h : ∀ y ∈ ys, y < 256) : wrd9 ys < 18446744073709551616 := by
  have h0 := getD_lt h 0
  have h1 := getD_lt h 1
  have h2 := getD_lt h 2
  have h3 := getD_lt h 3
  have h4 := getD_lt h 4
  have h5 := getD_lt h 5
  have h6 := getD_lt h 6
  have h7 := getD_lt h 7
  unfold wrd9
  omega
theorem bit_off9 {N i : Nat} (h : N &&& 9259542123273814144 = 0) (hi : (9259542123273814144 : Nat).testBit i = true) : N / 2 ^ i % 2 = 0 := by
  have h1 : (N &&& 9259542123273814144).testBit i = false := by rw [h]; exact Nat.zero_testBit i
  rw [Nat.testBit_and, hi, Bool.and_true, Nat.testBit_eq_decide_div_mod_eq] at h1
  have := of_decide_eq_false h1
  omega
theorem wl9_0 {y0 y1 y2 y3 y4 y5 y6 y7 : Nat} (h0 : y0 < 256) (m : (y0 + 256 * y1 + 65536 * y2 + 16777216 * y3 + 4294967296 * y4 + 1099511627776 * y5 + 281474976710656 * y6 + 72057594037927936 * y7) / 128 % 2 = 0) : y0 < 128 := by
  obtain ⟨U, hU⟩ : ∃ U, U = 1 * y1 + 256 * y2 + 65536 * y3 + 16777216 * y4 + 4294967296 * y5 + 1099511627776 * y6 + 281474976710656 * y7 := ⟨_, rfl⟩
  obtain ⟨L, hL⟩ : ∃ L, L = 0 := ⟨_, rfl⟩
  have hl : L < 1 := by omega
  have e : y0 + 256 * y1 + 65536 * y2 + 16777216 * y3 + 4294967296 * y4 + 1099511627776 * y5 + 281474976710656 * y6 + 72057594037927936 * y7 = L + 1 * y0 + 256 * U := by omega
  rw [e] at m
  clear e hU hL
  omega
theorem wl9_1 {y0 y1 y2 y3 y4 y5 y6 y7 : Nat} (h0 : y0 < 256) (h1 : y1 < 256) (m : (y0 + 256 * y1 + 65536 * y2 + 16777216 * y3 + 4294967296 * y4 + 1099511627776 * y5 + 281474976710656 * y6 + 72057594037927936 * y7) / 32768 % 2 = 0) : y1 < 128 := by
  obtain ⟨U, hU⟩ : ∃ U, U = 1 * y2 + 256 * y3 + 65536 * y4 + 16777216 * y5 + 4294967296 * y6 + 1099511627776 * y7 := ⟨_, rfl⟩
  obtain ⟨L, hL⟩ : ∃ L, L = y0 := ⟨_, rfl⟩
  have hl : L < 256 := by omega
  have e : y0 + 256 * y1 + 65536 * y2 + 16777216 * y3 + 4294967296 * y4 + 1099511627776 * y5 + 281474976710656 * y6 + 72057594037927936 * y7 = L + 256 * y1 + 65536 * U := by omega
  rw [e] at m
  clear e hU hL
  omega
theorem wl9_2 {y0 y1 y2 y3 y4 y5 y6 y7 : Nat} (h0 : y0 < 256) (h1 : y1 < 256) (h2 : y2 < 256) (m : (y0 + 256 * y1 + 65536 * y2 + 16777216 * y3 + 4294967296 * y4 + 1099511627776 * y5 + 281474976710656 * y6 + 72057594037927936 * y7) / 8388608 % 2 = 0) : y2 < 128 := by
  obtain ⟨U, hU⟩ : ∃ U, U = 1 * y3 + 256 * y4 + 65536 * y5 + 16777216 * y6 + 4294967296 * y7 := ⟨_, rfl⟩
  obtain ⟨L, hL⟩ : ∃ L, L = y0 + 256 * y1 := ⟨_, rfl⟩
  have hl : L < 65536 := by omega
  have e : y0 + 256 * y1 + 65536 * y2 + 16777216 * y3 + 4294967296 * y4 + 1099511627776 * y5 + 281474976710656 * y6 + 72057594037927936 * y7 = L + 65536 * y2 + 16777216 * U := by omega
  rw [e] at m
  clear e hU hL
  omega
theorem wl9_3 {y0 y1 y2 y3 y4 y5 y6 y7 : Nat} (h0 : y0 < 256) (h1 : y1 < 256) (h2 : y2 < 256) (h3 : y3 < 256) (m : (y0 + 256 * y1 + 65536 * y2 + 16777216 * y3 + 4294967296 * y4 + 1099511627776 * y5 + 281474976710656 * y6 + 72057594037927936 * y7) / 2147483648 % 2 = 0) : y3 < 128 := by
  obtain ⟨U, hU⟩ : ∃ U, U = 1 * y4 + 256 * y5 + 65536 * y6 + 16777216 * y7 := ⟨_, rfl⟩
  obtain ⟨L, hL⟩ : ∃ L, L = y0 + 256 * y1 + 65536 * y2 := ⟨_, rfl⟩
  have hl : L < 16777216 := by omega
  have e : y0 + 256 * y1 + 65536 * y2 + 16777216 * y3 + 4294967296 * y4 + 1099511627776 * y5 + 281474976710656 * y6 + 72057594037927936 * y7 = L + 16777216 * y3 + 4294967296 * U := by omega
  rw [e] at m
  clear e hU hL
  omega
theorem wl9_4 {y0 y1 y2 y3 y4 y5 y6 y7 : Nat} (h0 : y0 < 256) (h1 : y1 < 256) (h2 : y2 < 256) (h3 : y3 < 256) (h4 : y4 < 256) (m : (y0 + 256 * y1 + 65536 * y2 + 16777216 * y3 + 4294967296 * y4 + 1099511627776 * y5 + 281474976710656 * y6 + 72057594037927936 * y7) / 549755813888 % 2 = 0) : y4 < 128 := by
  obtain ⟨U, hU⟩ : ∃ U, U = 1 * y5 + 256 * y6 + 65536 * y7 := ⟨_, rfl⟩
  obtain ⟨L, hL⟩ : ∃ L, L = y0 + 256 * y1 + 65536 * y2 + 16777216 * y3 := ⟨_, rfl⟩
  have hl : L < 4294967296 := by omega
  have e : y0 + 256 * y1 + 65536 * y2 + 16777216 * y3 + 4294967296 * y4 + 1099511627776 * y5 + 281474976710656 * y6 + 72057594037927936 * y7 = L + 4294967296 * y4 + 1099511627776 * U := by omega
  rw [e] at m
  clear e hU hL
  omega
theorem wl9_5 {y0 y1 y2 y3 y4 y5 y6 y7 : Nat} (h0 : y0 < 256) (h1 : y1 < 256) (h2 : y2 < 256) (h3 : y3 < 256) (h4 : y4 < 256) (h5 : y5 < 256) (m : (y0 + 256 * y1 + 65536 * y2 + 16777216 * y3 + 4294967296 * y4 + 1099511627776 * y5 + 281474976710656 * y6 + 72057594037927936 * y7) / 140737488355328 % 2 = 0) : y5 < 128 := by
  obtain ⟨U, hU⟩ : ∃ U, U = 1 * y6 + 256 * y7 := ⟨_, rfl⟩
  obtain ⟨L, hL⟩ : ∃ L, L = y0 + 256 * y1 + 65536 * y2 + 16777216 * y3 + 4294967296 * y4 := ⟨_, rfl⟩
  have hl : L < 1099511627776 := by omega
  have e : y0 + 256 * y1 + 65536 * y2 + 16777216 * y3 + 4294967296 * y4 + 1099511627776 * y5 + 281474976710656 * y6 + 72057594037927936 * y7 = L + 1099511627776 * y5 + 281474976710656 * U := by omega
  rw [e] at m
  clear e hU hL
  omega
theorem wl9_6 {y0 y1 y2 y3 y4 y5 y6 y7 : Nat} (h0 : y0 < 256) (h1 : y1 < 256) (h2 : y2 < 256) (h3 : y3 < 256) (h4 : y4 < 256) (h5 : y5 < 256) (h6 : y6 < 256) (m : (y0 + 256 * y1 + 65536 * y2 + 16777216 * y3 + 4294967296 * y4 + 1099511627776 * y5 + 281474976710656 * y6 + 72057594037927936 * y7) / 36028797018963968 % 2 = 0) : y6 < 128 := by
  obtain ⟨U, hU⟩ : ∃ U, U = 1 * y7 := ⟨_, rfl⟩
  obtain ⟨L, hL⟩ : ∃ L, L = y0 + 256 * y1 + 65536 * y2 + 16777216 * y3 + 4294967296 * y4 + 1099511627776 * y5 := ⟨_, rfl⟩
  have hl : L < 281474976710656 := by omega
  have e : y0 + 256 * y1 + 65536 * y2 + 16777216 * y3 + 4294967296 * y4 + 1099511627776 * y5 + 281474976710656 * y6 + 72057594037927936 * y7 = L + 281474976710656 * y6 + 72057594037927936 * U := by omega
  rw [e] at m
  clear e hU hL
  omega
theorem wl9_7 {y0 y1 y2 y3 y4 y5 y6 y7 : Nat} (h0 : y0 < 256) (h1 : y1 < 256) (h2 : y2 < 256) (h3 : y3 < 256) (h4 : y4 < 256) (h5 : y5 < 256) (h6 : y6 < 256) (h7 : y7 < 256) (m : (y0 + 256 * y1 + 65536 * y2 + 16777216 * y3 + 4294967296 * y4 + 1099511627776 * y5 + 281474976710656 * y6 + 72057594037927936 * y7) / 9223372036854775808 % 2 = 0) : y7 < 128 := by
  obtain ⟨U, hU⟩ : ∃ U, U = 0 := ⟨_, rfl⟩
  obtain ⟨L, hL⟩ : ∃ L, L = y0 + 256 * y1 + 65536 * y2 + 16777216 * y3 + 4294967296 * y4 + 1099511627776 * y5 + 281474976710656 * y6 := ⟨_, rfl⟩
  have hl : L < 72057594037927936 := by omega
  have e : y0 + 256 * y1 + 65536 * y2 + 16777216 * y3 + 4294967296 * y4 + 1099511627776 * y5 + 281474976710656 * y6 + 72057594037927936 * y7 = L + 72057594037927936 * y7 + 18446744073709551616 * U := by omega
  rw [e] at m
  clear e hU hL
  omega
theorem wrd9_low (ys : List Nat) (h : ∀ y ∈ ys, y < 256) (hm : wrd9 ys &&& 9259542123273814144 = 0) : ∀ k, k < 8 → ys.getD k 0 < 128 := by
  intro k hk
  match k, hk with
  | 0, _ => exact wl9_0 (getD_lt h 0) (bit_off9 (i := 7) hm (by decide))
  | 1, _ => exact wl9_1 (getD_lt h 0) (getD_lt h 1) (bit_off9 (i := 15) hm (by decide))
  | 2, _ => exact wl9_2 (getD_lt h 0) (getD_lt h 1) (getD_lt h 2) (bit_off9 (i := 23) hm (by decide))
  | 3, _ => exact wl9_3 (getD_lt h 0) (getD_lt h 1) (getD_lt h 2) (getD_lt h 3) (bit_off9 (i := 31) hm (by decide))
  | 4, _ => exact wl9_4 (getD_lt h 0) (getD_lt h 1) (getD_lt h 2) (getD_lt h 3) (getD_lt h 4) (bit_off9 (i := 39) hm (by decide))
  | 5, _ => exact wl9_5 (getD_lt h 0) (getD_lt h 1) (getD_lt h 2) (getD_lt h 3) (getD_lt h 4) (getD_lt h 5) (bit_off9 (i := 47) hm (by decide))
  | 6, _ => exact wl9_6 (getD_lt h 0) (getD_lt h 1) (getD_lt h 2) (getD_lt h 3) (getD_lt h 4) (getD_lt h 5) (getD_lt h 6) (bit_off9 (i := 55) hm (by decide))
  | 7, _ => exact wl9_7 (getD_lt h 0) (getD_lt h 1) (getD_lt h 2) (getD_lt h 3) (getD_lt h 4) (getD_lt h 5) (getD_lt h 6) (getD_lt h 7) (bit_off9 (i := 63) hm (by decide))
theorem word9_any (w : World) (v : Value) (ys : List Nat) (h : BSl w v ys) (h8 : 8 ≤ ys.length) : Calls Tryz.prog 88 #[v] w fun e w' => e = .returned (.int .u64 (wrd9 ys : Nat)) ∧ ∃ q, w' = w.drewN q := by
  obtain ⟨⟨a, cap, rfl, hn, hc⟩, hm, hby⟩ := h
  rcases hc with hc | ⟨b, off, rfl, hc⟩
  · subst hc
    simp at h8
  have H0 := getD_lt hby 0
  have H1 := getD_lt hby 1
  have H2 := getD_lt hby 2
  have H3 := getD_lt hby 3
  have H4 := getD_lt hby 4
  have H5 := getD_lt hby 5
  have H6 := getD_lt hby 6
  have H7 := getD_lt hby 7
  have c0 : w.cell? ⟨b, off, none⟩ = some (.int .u8 ((ys.getD 0 0 : Nat) : Int)) := hc 0 (by omega)
  have c1 := hc 1 (by omega)
  have c2 := hc 2 (by omega)
  have c3 := hc 3 (by omega)
  have c4 := hc 4 (by omega)
  have c5 := hc 5 (by omega)
  have c6 := hc 6 (by omega)
  have c7 := hc 7 (by omega)
  have HW : Hid (wrd9 ys = ys.getD 0 0 + 256 * ys.getD 1 0 + 65536 * ys.getD 2 0 + 16777216 * ys.getD 3 0 + 4294967296 * ys.getD 4 0 + 1099511627776 * ys.getD 5 0 + 281474976710656 * ys.getD 6 0 + 72057594037927936 * ys.getD 7 0) := rfl
  generalize wrd9 ys = W at *
  generalize ys.getD 0 0 = y0 at *
  generalize ys.getD 1 0 = y1 at *
  generalize ys.getD 2 0 = y2 at *
  generalize ys.getD 3 0 = y3 at *
  generalize ys.getD 4 0 = y4 at *
  generalize ys.getD 5 0 = y5 at *
  generalize ys.getD 6 0 = y6 at *
  generalize ys.getD 7 0 = y7 at *
  generalize ys.length = n at *
  have g0 : (0 : Int) < (n : Int) := by omega
  have g1 : (1 : Int) < (n : Int) := by omega
  have g2 : (2 : Int) < (n : Int) := by omega
  have g3 : (3 : Int) < (n : Int) := by omega
  have g4 : (4 : Int) < (n : Int) := by omega
  have g5 : (5 : Int) < (n : Int) := by omega
  have g6 : (6 : Int) < (n : Int) := by omega
  have g7 : (7 : Int) < (n : Int) := by omega
  clear hc hm hby h8 hn
  go_enter Tryz.func88, Tryz.ntmps88
  go_wp2_with fail
  go_quiet (fail)
  go_wp2_with fail
  go_ret
  refine ⟨?_, ⟨_, rfl⟩⟩
  simp (disch := omega) only [u64_or8, u64_or16, u64_or24, u64_or32, u64_or40, u64_or48, u64_or56]
  rw [HW.out]
  refine congrArg (fun z => Ending.returned (Value.int .u64 z)) ?_
  omega
end
section
open Go.RowKit Go
theorem u8_of9 {y : Nat} (h : y < 256) : (UInt8.ofNat y).toNat = y := by
  rw [UInt8.toNat_ofNat']
  omega
theorem getD_map9 {ys : List Nat} (h : ∀ y ∈ ys, y < 256) (k : Nat) : ((ys.map UInt8.ofNat).getD k 0).toNat = ys.getD k 0 := by
  by_cases hk : k < ys.length
  · rw [List.getD_eq_getElem?_getD, List.getD_eq_getElem?_getD, List.getElem?_map, List.getElem?_eq_getElem hk]
    exact u8_of9 (h _ (List.getElem_mem hk))
  · rw [List.getD_eq_getElem?_getD, List.getD_eq_getElem?_getD, List.getElem?_map, List.getElem?_eq_none (by omega)]
    rfl
theorem vld_lead {ys : List Nat} (hne : ys ≠ []) (hb : ∀ y ∈ ys, y < 256) (h0 : 128 ≤ ys.getD 0 0) : vld ys = match Lib.checkN ys.length (ys.getD 1 0) (ys.getD 2 0) (ys.getD 3 0) (Lib.firstT (ys.getD 0 0) % 8) (Lib.accLo (Lib.firstT (ys.getD 0 0) / 16)) (Lib.accHi (Lib.firstT (ys.getD 0 0) / 16)) with
      | none => false
      | some k => vld (ys.drop k) := by
  unfold vld
  rw [Lib.validD_lead _ (by simpa using hne) (by rw [getD_map9 hb]; exact h0)]
  simp only [getD_map9 hb, List.length_map, List.map_drop]
  rfl
theorem vld_low {ys : List Nat} (hb : ∀ y ∈ ys, y < 256) (k : Nat) (h : ∀ j, j < k → ys.getD j 0 < 128) : vld (ys.drop k) = vld ys := by
  unfold vld
  rw [List.map_drop]
  refine (Lib.validD_ascii k _ (fun b hbm => ?_)).symm
  obtain ⟨j, hj, rfl⟩ := List.getElem_of_mem hbm
  rw [List.length_take, List.length_map] at hj
  have h1 := getD_map9 hb j
  rw [List.getD_eq_getElem?_getD, List.getElem?_eq_getElem (by rw [List.length_map]; omega)] at h1
  rw [List.getElem_take]
  have h2 := h j (by omega)
  simp only [Option.getD_some] at h1
  omega
theorem vld_word {ys : List Nat} (hb : ∀ y ∈ ys, y < 256) (hm : wrd9 ys &&& 9259542123273814144 = 0) : vld (ys.drop 8) = vld ys := vld_low hb 8 (wrd9_low ys hb hm)
theorem or_mask9 {x y m : Nat} (h : (x ||| y) &&& m = 0) : x &&& m = 0 ∧ y &&& m = 0 := by
  rw [Nat.and_or_distrib_right] at h
  exact ⟨(Nat.or_eq_zero_iff.1 h).1, (Nat.or_eq_zero_iff.1 h).2⟩
end
end Go.Proofs.YtmcamdcgnegmmaaGreatDoor
