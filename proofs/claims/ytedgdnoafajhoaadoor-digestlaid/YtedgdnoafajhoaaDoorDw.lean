import Derived.Test.YtedgdnoafajhoaaDoorRb
namespace Go.Proofs.YtedgdnoafajhoaaDoor
open Go.RowKit

theorem or_low (k a b : Nat) (hb : b < 2 ^ k) (h : 2 ^ k * a + b < 4294967296) (A B : Int) (hA : A = ((2 ^ k * a : Nat) : Int)) (hB : B = (b : Nat)) : bits .or .u32 A B = ((2 ^ k * a + b : Nat) : Int) := by
  subst hA
  subst hB
  rw [u32_or_nat _ _ (by omega) (by omega), ← Nat.two_pow_add_eq_or_of_lt hb]

set_option maxRecDepth 1000000 in
theorem word_any (w : World) (v : Value) (l : List Nat) (hsl : BSl w v l) (hp : l.length = 4) :
    Calls Tryd.prog 88 #[v] w fun e w' => e = .returned (.int .u32 (wrd l 0 : Nat)) ∧ Below w.heap.size w w' := by
  obtain ⟨⟨a, cap, rfl, hn, hc⟩, hmax, hb⟩ := hsl
  rcases hc with hc | ⟨b, off, rfl, hc⟩
  · subst hc; simp at hp
  have c0 : w.cell? ⟨b, off + 0, none⟩ = some (.int .u8 ((l.getD 0 0 : Nat) : Int)) := hc 0 (by omega)
  have c1 : w.cell? ⟨b, off + 1, none⟩ = some (.int .u8 ((l.getD 1 0 : Nat) : Int)) := hc 1 (by omega)
  have c2 : w.cell? ⟨b, off + 2, none⟩ = some (.int .u8 ((l.getD 2 0 : Nat) : Int)) := hc 2 (by omega)
  have c3 : w.cell? ⟨b, off + 3, none⟩ = some (.int .u8 ((l.getD 3 0 : Nat) : Int)) := hc 3 (by omega)
  have h0 := getD_lt hb 0
  have h1 := getD_lt hb 1
  have h2 := getD_lt hb 2
  have h3 := getD_lt hb 3
  have hE : wrd l 0 = ((l.getD 0 0 * 256 + l.getD 1 0) * 256 + l.getD 2 0) * 256 + l.getD 3 0 := rfl
  rw [hE]
  clear hn hc hb hE
  generalize l.getD 0 0 = x0 at *
  generalize l.getD 1 0 = x1 at *
  generalize l.getD 2 0 = x2 at *
  generalize l.getD 3 0 = x3 at *
  rw [Nat.add_zero] at c0
  have f1 : bits .or .u32 ((x0 : Int) * 16777216) ((x1 : Int) * 65536) = ((2 ^ 24 * x0 + x1 * 65536 : Nat) : Int) := or_low 24 x0 (x1 * 65536) (by omega) (by omega) _ _ (by omega) (by omega)
  have f2 : bits .or .u32 ((2 ^ 24 * x0 + x1 * 65536 : Nat) : Int) ((x2 : Int) * 256) = ((2 ^ 16 * (x0 * 256 + x1) + x2 * 256 : Nat) : Int) := or_low 16 (x0 * 256 + x1) (x2 * 256) (by omega) (by omega) _ _ (by omega) (by omega)
  have f3 : bits .or .u32 ((2 ^ 16 * (x0 * 256 + x1) + x2 * 256 : Nat) : Int) (x3 : Int) = ((2 ^ 8 * ((x0 * 256 + x1) * 256 + x2) + x3 : Nat) : Int) := or_low 8 ((x0 * 256 + x1) * 256 + x2) x3 (by omega) (by omega) _ _ (by omega) (by omega)
  have e3 : ((x0 * 256 + x1) * 256 + x2) * 256 + x3 = 2 ^ 8 * ((x0 * 256 + x1) * 256 + x2) + x3 := by omega
  rw [e3]
  have b1 : 2 ^ 24 * x0 + x1 * 65536 < 4294967296 := by omega
  have b2 : 2 ^ 16 * (x0 * 256 + x1) + x2 * 256 < 4294967296 := by omega
  have b3 : 2 ^ 8 * ((x0 * 256 + x1) * 256 + x2) + x3 < 4294967296 := by omega
  clear e3
  generalize 2 ^ 24 * x0 + x1 * 65536 = y1 at *
  generalize 2 ^ 16 * (x0 * 256 + x1) + x2 * 256 = y2 at *
  generalize 2 ^ 8 * ((x0 * 256 + x1) * 256 + x2) + x3 = y3 at *
  go_enter Tryd.func88, Tryd.ntmps88
  go_wp2_with fail
  go_quiet (fail)
  go_wp2_with fail
  go_ret
  exact ⟨rfl, (Kp.drewN (Kp.refl (fun _ => False) _) _).below (Nat.le_refl _) (fun _ h => h.elim)⟩
end Go.Proofs.YtedgdnoafajhoaaDoor
