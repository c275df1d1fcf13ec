/- Add, Sub, Compare. -/
import Derived.Test.YtojdahgoapknjaaDoorNum
namespace Go.Proofs.YtojdahgoapknjaaDoor
open Go.RowKit

/-- A span in a block. -/
def Bx (w : World) (p : Nat) (s n : Int) : Prop := w.heap[p]? = some (.cells #[.int .i64 s, .int .i64 n] 23 (0, 0))
theorem Bx.keep {w w' : World} {p : Nat} {s n : Int} (h : Bx w p s n) (k : Kp w w' []) : Bx w' p s n := (k.block p (lt_of_block h) (by simp)).trans h
theorem Bx.c0 {w : World} {p : Nat} {s n : Int} (h : Bx w p s n) : w.cell? ⟨p, 0, none⟩ = some (.int .i64 s) := cell_two0 h
theorem Bx.c1 {w : World} {p : Nat} {s n : Int} (h : Bx w p s n) : w.cell? ⟨p, 1, none⟩ = some (.int .i64 n) := cell_two1 h
theorem Bx.f0 {w : World} {p : Nat} {s n : Int} (h : Bx w p s n) : w.frozen? ⟨p, 0, none⟩ = false := free_two h
theorem Bx.f1 {w : World} {p : Nat} {s n : Int} (h : Bx w p s n) : w.frozen? ⟨p, 1, none⟩ = false := free_two h
theorem Bx.set {w : World} {p : Nat} {s n : Int} (h : Bx w p s n) (a b : Int) : Bx ((w.setCell ⟨p, 0, none⟩ (.int .i64 a)).setCell ⟨p, 1, none⟩ (.int .i64 b)) p a b := stored2 h
theorem bx_new (w : World) (s n : Int) : Bx (w.alloc (.cells #[.int .i64 s, .int .i64 n] 23)) w.heap.size s n := heap_new w _
abbrev ob (s n : Int) : Obj := .cells #[.int .i64 s, .int .i64 n] 23
theorem bx2 (w : World) (a b c d : Int) : Bx ((w.alloc (ob a b)).alloc (ob c d)) w.heap.size a b ∧ Bx ((w.alloc (ob a b)).alloc (ob c d)) (w.heap.size + 1) c d ∧ Kp w ((w.alloc (ob a b)).alloc (ob c d)) [] := by
  have h1 := bx_new w a b
  have h2 := bx_new (w.alloc (ob a b)) c d
  rw [show (w.alloc (ob a b)).heap.size = w.heap.size + 1 by simp] at h2
  exact ⟨h1.keep (Kp.alloc _ _ _), h2, (Kp.alloc _ _ _).trans (Kp.alloc _ _ _)⟩
theorem bx3 (w : World) (a b c d e f : Int) : Bx (((w.alloc (ob a b)).alloc (ob c d)).alloc (ob e f)) w.heap.size a b ∧ Bx (((w.alloc (ob a b)).alloc (ob c d)).alloc (ob e f)) (w.heap.size + 1) c d ∧ Bx (((w.alloc (ob a b)).alloc (ob c d)).alloc (ob e f)) (w.heap.size + 1 + 1) e f ∧ Kp w (((w.alloc (ob a b)).alloc (ob c d)).alloc (ob e f)) [] := by
  obtain ⟨h1, h2, h3⟩ := bx2 w a b c d
  have h4 := bx_new ((w.alloc (ob a b)).alloc (ob c d)) e f
  rw [show ((w.alloc (ob a b)).alloc (ob c d)).heap.size = w.heap.size + 1 + 1 by simp] at h4
  exact ⟨h1.keep (Kp.alloc _ _ _), h2.keep (Kp.alloc _ _ _), h4, h3.trans (Kp.alloc _ _ _)⟩


theorem ofN_big {t : Int} (h : 2147483647 < t / 1000000000) : ofN t = (0, 0, 5) := by unfold ofN; rw [if_pos (by omega)]
theorem ofN_ok {t : Int} (h : t / 1000000000 ≤ 2147483647) : ofN t = (t / 1000000000, t % 1000000000, 0) := by unfold ofN; rw [if_neg (by omega)]
theorem carP_eq {s n t : Int} (h : t = s * 1000000000 + n) (h1 : -1000000000 ≤ n) : carP s n = (t / 1000000000, t % 1000000000) := by
  unfold carP
  split
  · exact Prod.ext (by show s + n / 1000000000 = t / 1000000000; omega) (by show n % 1000000000 = t % 1000000000; omega)
  · split
    · exact Prod.ext (by show s - 1 = t / 1000000000; omega) (by show n + 1000000000 = t % 1000000000; omega)
    · exact Prod.ext (by show s = t / 1000000000; omega) (by show n = t % 1000000000; omega)

set_option maxRecDepth 100000 in
theorem add_any (w : World) (a b c d : Int) : Calls Tryd.prog 9 #[sp a b, sp c d] w fun x w' => x = .returned (spE (addP a b c d)) ∧ Kp w w' [] := by
  by_cases m1 : may a b = true
  · by_cases m2 : may c d = true
    · obtain ⟨a1, a2, b1, b2⟩ := may_iff.1 m1
      obtain ⟨c1, c2, d1, d2⟩ := may_iff.1 m2
      rw [show addP a b c d = ofN (tot a b + tot c d) by unfold addP; simp [m1, m2]]
      obtain ⟨t, ht⟩ : ∃ t, tot a b + tot c d = t := ⟨_, rfl⟩
      have cr := fun w => carried_any w (a + c) (b + d) ⟨by omega, by omega⟩ ⟨by omega, by omega⟩
      have ht2 : t = (a + c) * 1000000000 + (b + d) := by rw [← ht]; unfold tot; omega
      rw [carP_eq ht2 (by omega)] at cr
      have tb : 0 ≤ t / 1000000000 ∧ t / 1000000000 ≤ 4294967296 := by omega
      have tc : 0 ≤ t % 1000000000 ∧ t % 1000000000 < 1000000000 := by omega
      rw [ht]
      obtain ⟨u, hu⟩ : ∃ u, t / 1000000000 = u := ⟨_, rfl⟩
      obtain ⟨v, hv⟩ : ∃ v, t % 1000000000 = v := ⟨_, rfl⟩
      have R := hid (show ofN t = if 2147483647 < u then (0, 0, 5) else (u, v, 0) by unfold ofN; rw [hu, hv])
      rw [hu] at tb
      rw [hv] at tc
      simp only [hu, hv] at cr
      clear ht ht2 hu hv
      go_enter Tryd.func9, Tryd.ntmps9
      go_wp2_with fail
      obtain ⟨p1, p2, p3, k⟩ := bx3 w a b c d 0 0
      refine (may_any _ a b).mono ?_
      rintro e w1 ⟨rfl, k1⟩
      rw [m1]
      have K := hid (k.trans k1)
      have P1 := hid (p1.keep k1)
      have P2 := hid (p2.keep k1)
      have P3 := hid (p3.keep k1)
      have x1 := P2.out.c0
      have x2 := P2.out.c1
      clear p1 p2 p3 k k1
      go_wp2_with fail
      refine (may_any _ c d).mono ?_
      rintro e w2 ⟨rfl, k1⟩
      rw [m2]
      have K2 := hid (K.out.trans k1)
      have Q1 := hid (P1.out.keep k1)
      have Q2 := hid (P2.out.keep k1)
      have Q3 := hid (P3.out.keep k1)
      clear K P1 P2 P3 k1 x1 x2
      have x1 := Q1.out.c0
      have x2 := Q1.out.c1
      have x3 := Q2.out.c0
      have x4 := Q2.out.c1
      go_wp2_with fail
      refine (cr _).mono ?_
      rintro e w3 ⟨rfl, k1⟩
      have K3 := hid (K2.out.trans k1)
      have P3 := hid (Q3.out.keep k1)
      clear K2 Q1 Q2 Q3 k1 x1 x2 x3 x4 cr
      by_cases hf : 2147483647 < u
      · have y := P3.out.keep (Kp.alloc w3 (ob u v) [])
        have x1 := y.f0
        have x2 := y.f1
        have x3 := y.c0
        have x4 := y.c1
        go_wp2_with fail
        exact bodyPost_ret (v := spE (0, 0, 5)) (by simp [results, Tryd.results9, go_sem, (y.set 0 0).c0, (y.set 0 0).c1]) rfl ⟨by rw [R.out, if_pos hf], (K3.out.trans (Kp.alloc _ _ _)).store2 (by omega) _ _⟩
      · have hf' : u ≤ 2147483647 := by omega
        have y := P3.out.keep (Kp.alloc w3 (ob u v) [])
        have x1 := y.f0
        have x2 := y.f1
        have x3 := y.c0
        have x4 := y.c1
        go_wp2_with fail
        exact bodyPost_ret (v := spE (u, v, 0)) (by simp [results, Tryd.results9, go_sem, (y.set u v).c0, (y.set u v).c1]) rfl ⟨by rw [R.out, if_neg (by omega)], (K3.out.trans (Kp.alloc _ _ _)).store2 (by omega) _ _⟩
    · have m2' : may c d = false := by simpa using m2
      rw [show addP a b c d = (0, 0, 2) by unfold addP; simp [m2']]
      clear m2
      go_enter Tryd.func9, Tryd.ntmps9
      go_wp2_with fail
      obtain ⟨p1, p2, p3, k⟩ := bx3 w a b c d 0 0
      refine (may_any _ a b).mono ?_
      rintro e w1 ⟨rfl, k1⟩
      rw [m1]
      have K := hid (k.trans k1)
      have P2 := hid (p2.keep k1)
      have P3 := hid (p3.keep k1)
      have x1 := P2.out.c0
      have x2 := P2.out.c1
      clear p1 p2 p3 k k1
      go_wp2_with fail
      refine (may_any _ c d).mono ?_
      rintro e w2 ⟨rfl, k1⟩
      rw [m2']
      have K2 := hid (K.out.trans k1)
      have Q3 := P3.out.keep k1
      clear K P2 P3 k1 x1 x2
      have x1 := Q3.f0
      have x2 := Q3.f1
      have x3 := Q3.c0
      have x4 := Q3.c1
      go_wp2_with fail
      exact bodyPost_ret (v := spE (0, 0, 2)) (by simp [results, Tryd.results9, go_sem, (Q3.set 0 0).c0, (Q3.set 0 0).c1]) rfl ⟨rfl, K2.out.store2 (by omega) _ _⟩
  · have m1' : may a b = false := by simpa using m1
    rw [show addP a b c d = (0, 0, 2) by unfold addP; simp [m1']]
    clear m1
    go_enter Tryd.func9, Tryd.ntmps9
    go_wp2_with fail
    obtain ⟨p1, p2, p3, k⟩ := bx3 w a b c d 0 0
    refine (may_any _ a b).mono ?_
    rintro e w1 ⟨rfl, k1⟩
    rw [m1']
    have K := hid (k.trans k1)
    have Q3 := p3.keep k1
    clear p1 p2 p3 k k1 m1'
    have x1 := Q3.f0
    have x2 := Q3.f1
    have x3 := Q3.c0
    have x4 := Q3.c1
    go_wp2_with fail
    exact bodyPost_ret (v := spE (0, 0, 2)) (by simp [results, Tryd.results9, go_sem, (Q3.set 0 0).c0, (Q3.set 0 0).c1]) rfl ⟨rfl, K.out.store2 (by omega) _ _⟩
end Go.Proofs.YtojdahgoapknjaaDoor
