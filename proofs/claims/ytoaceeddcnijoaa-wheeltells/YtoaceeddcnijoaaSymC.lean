/- symMerge: what the search for the place tells. -/
import Derived.Test.YtoaceeddcnijoaaSymB
namespace Go.Proofs.Ytoaceeddcnijoaa
open Go.RowKit Go.Shelf Go.Lib Go.Sort

/-- symMerge merges two sorted parts of at most K in all. -/
def SymOk (w0 : World) (blk cap N K : Nat) : Prop := ∀ (A X Y R : List Dl) (W : World) (a m b : Nat), X.length + Y.length ≤ K → Sw w0 blk (A ++ (X ++ (Y ++ R))) W → N = (A ++ (X ++ (Y ++ R))).length → a = A.length → m = a + X.length → b = m + Y.length → 0 < X.length → 0 < Y.length → Asc X → Asc Y →
  Calls Try.prog 48 #[.slice (some ⟨blk, 0, none⟩) N cap, .int .i64 a, .int .i64 m, .int .i64 b, cmpV] W fun e w' => e = .returned (.tuple #[]) ∧ ∃ Z, St (X ++ Y) Z ∧ Sw w0 blk (A ++ (Z ++ R)) w'

theorem wsub {x y d : Nat} (h : y + d = x) (hb : x < 4000000000) : IntKind.i64.wrap ((x : Int) - y) = (d : Int) := by
  rw [show (x : Int) - y = (d : Int) by omega]; exact IntWalk.i64_in _ ⟨by omega, by omega⟩
theorem wpred {x d : Nat} (h : d + 1 = x) (hb : x < 4000000000) : IntKind.i64.wrap ((x : Int) - 1) = (d : Int) := by
  rw [show (x : Int) - 1 = (d : Int) by omega]; exact IntWalk.i64_in _ ⟨by omega, by omega⟩
theorem wadd {x y d : Nat} (h : x + y = d) (hb : d < 4000000000) : IntKind.i64.wrap ((x : Int) + y) = (d : Int) := by
  rw [show (x : Int) + y = (d : Int) by omega]; exact IntWalk.i64_in _ ⟨by omega, by omega⟩
theorem wmid {s h : Nat} (hs : s / 2 = h) (hb : s < 4000000000) : wrap64 (IntKind.u64.wrap (s : Int) / 2) = (h : Int) := by
  rw [IntWalk.u64_in _ ⟨by omega, by omega⟩, mid_div hs]; exact IntWalk.wrap64_in _ ⟨by omega, by omega⟩
theorem wmid2 {s h : Nat} (hs : s / 2 = h) (hb : s < 4000000000) : wrap64 ((s : Int) / 2) = (h : Int) := by
  rw [mid_div hs]; exact IntWalk.wrap64_in _ ⟨by omega, by omega⟩
/-- What the search for the place leaves. -/
structure Cutp (L : List Dl) (nn s0 r0 st r : Nat) : Prop where
  lo : st = s0 ∨ ¬ L[nn - 1 - (st - 1)]!.2 < L[st - 1]!.2
  hi : r = r0 ∨ L[nn - 1 - r]!.2 < L[r]!.2
/-- The parts behind the search. -/
theorem cut_parts {A X Y R L : List Dl} {a m b nn s0 r0 st en : Nat} (hL : A ++ (X ++ (Y ++ R)) = L) (ha : a = A.length) (hm : m = a + X.length) (hb : b = m + Y.length) (hX : Asc X) (hY : Asc Y) (h : Cutp L nn s0 r0 st st) (h1 : a ≤ s0) (h2 : s0 ≤ st) (h3 : st ≤ r0) (h4 : r0 ≤ m) (h5 : nn - s0 ≤ b) (h6 : m ≤ nn - r0) (h7 : s0 = a ∨ nn - s0 = b) (h8 : r0 = m ∨ nn - r0 = m) (hen : nn - st = en) (hnn : r0 ≤ nn) :
    (∀ p ∈ X.drop (st - a), ∀ q ∈ Y.take (en - m), q.2 < p.2) ∧ (∀ p ∈ X.take (st - a), ∀ q ∈ Y.drop (en - m), p.2 ≤ q.2) := by
  have gX : ∀ t, t < X.length → L[a + t]! = X[t]! := fun t ht => by
    rw [← hL, get_mid _ _ _ (by omega), show a + t - A.length = t by omega]
    rw [List.getElem!_eq_getElem?_getD, List.getElem!_eq_getElem?_getD, List.getElem?_append_left ht]
  have gY : ∀ t, t < Y.length → L[m + t]! = Y[t]! := fun t ht => by
    rw [← hL, get_mid _ _ _ (by omega), get_mid _ _ _ (by omega), show m + t - A.length - X.length = t by omega]
    rw [List.getElem!_eq_getElem?_getD, List.getElem!_eq_getElem?_getD, List.getElem?_append_left ht]
  constructor
  · rcases h.hi with e | e
    · rcases h8 with e' | e'
      · rw [List.drop_eq_nil_of_le (by omega)]; intro p hp; cases hp
      · rw [show en - m = 0 by omega, List.take_zero]; intro p _ q hq; cases hq
    · by_cases hst : st < m
      · by_cases hem : m < en
        · have x0 := gX (st - a) (by omega)
          have y0 := gY (en - 1 - m) (by omega)
          rw [show a + (st - a) = st by omega] at x0
          rw [show m + (en - 1 - m) = nn - 1 - st by omega] at y0
          rw [x0, y0] at e
          intro p hp q hq
          have p1 := asc_back hX (k := st - a) (by omega) p hp
          have q1 := asc_front hY (k := en - 1 - m) (by omega) q (by rw [show en - 1 - m + 1 = en - m by omega]; exact hq)
          omega
        · rw [show en - m = 0 by omega, List.take_zero]; intro p _ q hq; cases hq
      · rw [List.drop_eq_nil_of_le (by omega)]; intro p hp; cases hp
  · rcases h.lo with e | e
    · rcases h7 with e' | e'
      · rw [show st - a = 0 by omega, List.take_zero]; intro p hp; cases hp
      · rw [List.drop_eq_nil_of_le (show Y.length ≤ en - m by omega)]; intro p _ q hq; cases hq
    · by_cases hst : a < st
      · by_cases heb : en < b
        · by_cases hss : s0 < st
          · have x0 := gX (st - 1 - a) (by omega)
            have y0 := gY (en - m) (by omega)
            rw [show a + (st - 1 - a) = st - 1 by omega] at x0
            rw [show m + (en - m) = nn - 1 - (st - 1) by omega] at y0
            rw [x0, y0] at e
            intro p hp q hq
            have p1 := asc_front hX (k := st - 1 - a) (by omega) p (by rw [show st - 1 - a + 1 = st - a by omega]; exact hp)
            have q1 := asc_back hY (k := en - m) (by omega) q hq
            omega
          · rcases h7 with e' | e'
            · omega
            · omega
        · rw [List.drop_eq_nil_of_le (show Y.length ≤ en - m by omega)]; intro p _ q hq; cases hq
      · rw [show st - a = 0 by omega, List.take_zero]; intro p hp; cases hp
end Go.Proofs.Ytoaceeddcnijoaa
