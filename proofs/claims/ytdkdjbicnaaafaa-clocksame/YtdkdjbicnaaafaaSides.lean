/- Two sides, each a program's clocks and the reference's, or nothing: what ClockSame asks of them. -/
import Derived.Test.YtdkdjbicnaaafaaDo
import Derived.Test.YtdkdjbicnaaafaaArgs
namespace Go.Proofs.Ytdkdjbicnaaafaa
open Go.RowKit

def good (n : Int) : Prop := 0 ≤ n ∧ n ≤ 1099511627776
instance (n : Int) : Decidable (good n) := inferInstanceAs (Decidable (_ ∧ _))
def newP (w : World) (n : Int) : Option Addr := if good n then some ⟨w.heap.size, 0, none⟩ else none
def newE (n : Int) : Int := if good n then 0 else 2
def newW (w : World) (n : Int) : World := if good n then w.alloc (.cells #[.int .i64 n, .int .i64 0, .bool true] 51) else w
def rnewW (w : World) (n : Int) : World := if good n then w.alloc (.cells #[.int .i64 n, .int .i64 0] 54) else w
theorem new_any (w : World) (n : Int) : Calls Try.prog 7 #[.int .i64 n] w fun e w' => e = .returned (.tuple #[.pointer (newP w n), .int .i64 (newE n)]) ∧ w' = newW w n := by
  unfold newP newE newW
  by_cases h : good n
  · rw [if_pos h, if_pos h, if_pos h]; exact new_ok w n h
  · rw [if_neg h, if_neg h, if_neg h]; exact new_no w n h
theorem rnew_any (w : World) (n : Int) : Calls Try.prog 8 #[.int .i64 n] w fun e w' => e = .returned (.pointer (newP w n)) ∧ w' = rnewW w n := by
  unfold newP rnewW
  by_cases h : good n
  · rw [if_pos h, if_pos h]; exact rnew_ok w n h.1 h.2
  · rw [if_neg h, if_neg h]; exact rnew_no w n h
theorem newW_kp (w : World) (n : Int) : Kp w (newW w n) [] := by
  unfold newW
  split
  · exact Kp.alloc _ _ _
  · exact Kp.refl _ _
theorem rnewW_kp (w : World) (n : Int) : Kp w (rnewW w n) [] := by
  unfold rnewW
  split
  · exact Kp.alloc _ _ _
  · exact Kp.refl _ _
/-- A side. -/
def Sd (w W : World) (px pp : Option Addr) : Prop := (px = none ∧ pp = none) ∨ ∃ b c x y, px = some ⟨b, 0, none⟩ ∧ pp = some ⟨c, 0, none⟩ ∧ Bo W b c x y ∧ w.heap.size ≤ b ∧ w.heap.size ≤ c
/-- Both sides. -/
structure Ts (w W : World) (px pp py pq : Option Addr) : Prop where
  s1 : Sd w W px pp
  s2 : Sd w W py pq
  ap : ∀ a, (px = some a → py ≠ some a) ∧ (pp = some a → pq ≠ some a)
  kp : Kp w W []
theorem Sd.keep {w W W' : World} {px pp : Option Addr} (h : Sd w W px pp) (hk : Kp W W' []) : Sd w W' px pp := by
  rcases h with h | ⟨b, c, x, y, h1, h2, h3, h4⟩
  · exact .inl h
  · exact .inr ⟨b, c, x, y, h1, h2, h3.keep hk (by simp) (by simp), h4⟩
theorem Ts.keep {w W W' : World} {px pp py pq : Option Addr} (h : Ts w W px pp py pq) (hk : Kp W W' []) : Ts w W' px pp py pq := ⟨h.s1.keep hk, h.s2.keep hk, h.ap, h.kp.trans hk⟩
theorem Ts.swap {w W : World} {px pp py pq : Option Addr} (h : Ts w W px pp py pq) : Ts w W py pq px pp := ⟨h.s2, h.s1, fun a => ⟨fun e1 e2 => (h.ap a).1 e2 e1, fun e1 e2 => (h.ap a).2 e2 e1⟩, h.kp⟩
theorem start (w A : World) (r0 r1 : Int) (hA : Kp (newW (newW w r0) r1) A []) : Ts w (rnewW (rnewW A r0) r1) (newP w r0) (newP A r0) (newP (newW w r0) r1) (newP (rnewW A r0) r1) := by
  have k1 := newW_kp w r0
  have k2 := (newW_kp (newW w r0) r1).trans hA
  have kA := hA
  have k3 := rnewW_kp A r0
  have k4 := rnewW_kp (rnewW A r0) r1
  have z1 := k1.size
  have z2 := k2.size
  have z3 := k3.size
  have z4 := k4.size
  have m0 : may 0 := ⟨by decide, by decide⟩
  refine ⟨?_, ?_, ?_, ((k1.trans k2).trans k3).trans k4⟩
  · by_cases h : good r0
    · refine .inr ⟨w.heap.size, A.heap.size, r0, 0, by simp [newP, h], by simp [newP, h], ⟨?_, ?_, h, m0⟩, Nat.le_refl _, by omega⟩
      · have : Ck (newW w r0) w.heap.size r0 0 := by unfold newW; rw [if_pos h]; exact heap_alloc_new w (.cells #[.int .i64 r0, .int .i64 0, .bool true] 51)
        exact this.keep ((k2.trans k3).trans k4) (by simp)
      · have : Rk (rnewW A r0) A.heap.size r0 0 := by rw [rnewW, if_pos h]; exact heap_alloc_new _ (.cells #[.int .i64 r0, .int .i64 0] 54)
        exact this.keep k4 (by simp)
    · exact .inl ⟨by simp [newP, h], by simp [newP, h]⟩
  · by_cases h : good r1
    · refine .inr ⟨(newW w r0).heap.size, (rnewW A r0).heap.size, r1, 0, by simp [newP, h], by simp [newP, h], ⟨?_, ?_, h, m0⟩, by omega, by omega⟩
      · have : Ck (newW (newW w r0) r1) (newW w r0).heap.size r1 0 := by rw [newW, if_pos h]; exact heap_alloc_new _ (.cells #[.int .i64 r1, .int .i64 0, .bool true] 51)
        exact this.keep ((kA.trans k3).trans k4) (by simp)
      · rw [Rk, rnewW, if_pos h]; exact heap_alloc_new _ (.cells #[.int .i64 r1, .int .i64 0] 54)
    · exact .inl ⟨by simp [newP, h], by simp [newP, h]⟩
  · intro a
    constructor
    · intro h1 h2
      by_cases g0 : good r0
      · by_cases g1 : good r1
        · rw [newP, if_pos g0] at h1
          rw [newP, if_pos g1] at h2
          have hs : (newW w r0).heap.size = w.heap.size + 1 := by rw [newW, if_pos g0]; simp
          rw [← h1, hs] at h2
          simp at h2
        · rw [newP, if_neg g1] at h2; cases h2
      · rw [newP, if_neg g0] at h1; cases h1
    · intro h1 h2
      by_cases g0 : good r0
      · by_cases g1 : good r1
        · rw [newP, if_pos g0] at h1
          rw [newP, if_pos g1] at h2
          have hs : (rnewW A r0).heap.size = A.heap.size + 1 := by rw [rnewW, if_pos g0]; simp
          rw [← h1, hs] at h2
          simp at h2
        · rw [newP, if_neg g1] at h2; cases h2
      · rw [newP, if_neg g0] at h1; cases h1

theorem Ts.base {w W0 W : World} {px pp py pq : Option Addr} (h : Ts W0 W px pp py pq) (k : Kp w W0 []) : Ts w W px pp py pq := by
  have hs := k.size
  have up : ∀ {p q : Option Addr}, Sd W0 W p q → Sd w W p q := by
    rintro p q (h | ⟨b, c, x, y, h1, h2, h3, h4, h5⟩)
    · exact .inl h
    · exact .inr ⟨b, c, x, y, h1, h2, h3, by omega, by omega⟩
  exact ⟨up h.s1, up h.s2, h.ap, k.trans h.kp⟩

/-- A step on the first side. -/
theorem Ts.step {w W W' : World} {b c : Nat} {py pq : Option Addr} {e : Ending} (h : Ts w W (some ⟨b, 0, none⟩) (some ⟨c, 0, none⟩) py pq) (hd : Did W W' e b c) :
    ∃ b', e = .returned (.tuple #[.pointer (some ⟨b', 0, none⟩), .pointer (some ⟨c, 0, none⟩), .bool true]) ∧ Ts w W' (some ⟨b', 0, none⟩) (some ⟨c, 0, none⟩) py pq := by
  obtain ⟨b', x', y', he, hB, hK, hb⟩ := hd
  have hs := h.kp.size
  rcases h.s1 with ⟨h1, -⟩ | ⟨b1, c1, x, y, e1, e2, hB1, n1, n2⟩
  · cases h1
  obtain rfl : b = b1 := by simpa using e1
  obtain rfl : c = c1 := by simpa using e2
  have hkp : Kp w W' [] := h.kp.past hK (by intro k hk hl; simp at hk; omega)
  refine ⟨b', he, ?_, ?_, ?_, hkp⟩
  · exact .inr ⟨b', c, x', y', rfl, rfl, hB, by omega, n2⟩
  · rcases h.s2 with h2 | ⟨b2, c2, x2, y2, f1, f2, hB2, m1, m2⟩
    · exact .inl h2
    · have a1 : b ≠ b2 := fun e => (h.ap ⟨b, 0, none⟩).1 rfl (by rw [f1, e])
      have a2 : c ≠ c2 := fun e => (h.ap ⟨c, 0, none⟩).2 rfl (by rw [f2, e])
      have a3 := ck_rk hB1.ck hB2.rk
      have a4 := ck_rk hB2.ck hB1.rk
      exact .inr ⟨b2, c2, x2, y2, f1, f2, hB2.keep hK (by simp; omega) (by simp; omega), m1, m2⟩
  · intro a
    refine ⟨?_, (h.ap a).2⟩
    intro h1 h2
    obtain rfl : (⟨b', 0, none⟩ : Addr) = a := by simpa using h1
    rcases hb with rfl | hb
    · exact (h.ap _).1 rfl h2
    · rcases h.s2 with ⟨h3, -⟩ | ⟨b2, c2, x2, y2, f1, f2, hB2, m1, m2⟩
      · rw [h3] at h2; cases h2
      · rw [f1] at h2
        have := hB2.ck.lt
        have h5 : b2 = b' := congrArg Addr.block (Option.some.inj h2)
        omega

/-- Both Sames tell the same. -/
theorem Ts.same {w W : World} {px pp py pq : Option Addr} (h : Ts w W px pp py pq) : ∃ r : Bool, (Calls Try.prog 13 #[.pointer px, .pointer py] W fun e w' => e = .returned (.bool r) ∧ Kp W w' []) ∧
    ∀ W', Kp W W' [] → Calls Try.prog 14 #[.pointer pp, .pointer pq] W' fun e w' => e = .returned (.bool r) ∧ Kp W' w' [] := by
  have up : ∀ {f : Nat} {a : Array Value} {r : Bool} {A : World}, (Calls Try.prog f a A fun e w' => e = .returned (.bool r) ∧ w' = A) → Calls Try.prog f a A fun e w' => e = .returned (.bool r) ∧ Kp A w' [] :=
    fun h => h.mono fun _ _ ⟨a, b⟩ => ⟨a, by rw [b]; exact Kp.refl _ _⟩
  rcases h.s1 with ⟨rfl, rfl⟩ | ⟨b1, c1, x1, y1, rfl, rfl, hB1, -, -⟩
  · rcases h.s2 with ⟨rfl, rfl⟩ | ⟨b2, c2, x2, y2, rfl, rfl, hB2, -, -⟩
    · exact ⟨true, up (zsame W none none (.inl rfl) (.inl rfl)), fun W' _ => up (rsame_none W')⟩
    · exact ⟨false, up (zsame_left W none b2 x2 y2 (.inl rfl) hB2.ck), fun W' _ => up (rsame_left W' c2)⟩
  · rcases h.s2 with ⟨rfl, rfl⟩ | ⟨b2, c2, x2, y2, rfl, rfl, hB2, -, -⟩
    · exact ⟨false, up (zsame_right W none b1 x1 y1 (.inl rfl) hB1.ck), fun W' _ => up (rsame_right W' c1)⟩
    · exact ⟨_, same_any W b1 b2 x1 y1 x2 y2 hB1.ck hB2.ck, fun W' hk => rsame_any W' c1 c2 x1 y1 x2 y2 (hB1.rk.keep hk (by simp)) (hB2.rk.keep hk (by simp))⟩
theorem Sd.self {w W : World} {px pp : Option Addr} (h : Sd w W px pp) : Calls Try.prog 13 #[.pointer px, .pointer px] W fun e w' => e = .returned (.bool true) ∧ Kp W w' [] := by
  rcases h with ⟨rfl, -⟩ | ⟨b, c, x, y, rfl, -, hB, -, -⟩
  · exact (zsame W none none (.inl rfl) (.inl rfl)).mono fun _ _ ⟨a, b⟩ => ⟨a, by rw [b]; exact Kp.refl _ _⟩
  · refine (same_any W b b x y x y hB.ck hB.ck).mono ?_
    rintro e w' ⟨rfl, hk⟩
    exact ⟨by simp, hk⟩
end Go.Proofs.Ytdkdjbicnaaafaa
