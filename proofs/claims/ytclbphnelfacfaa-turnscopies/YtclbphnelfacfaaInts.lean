/- SameInts: two lists of numbers. -/
import Derived.Test.YtclbphnelfacfaaVc
namespace Go.Proofs.Ytclbphnelfacfaa
open Go.RowKit Go.Shelf

theorem prefix_step {l m : List Nat} {k x y : Nat} (hl : l[k]? = some x) (hm : m[k]? = some y) (h : l.take k = m.take k) : (l.take (k + 1) = m.take (k + 1)) ↔ x = y := by
  rw [List.take_add_one, List.take_add_one, hl, hm, h]
  constructor
  · intro e
    have := List.append_cancel_left e
    simpa using this
  · intro e; rw [e]

set_option maxRecDepth 100000 in
set_option maxHeartbeats 1000000 in
theorem ints_any (w : World) (b1 b2 : Nat) (V1 V2 : Value) (l m : List Nat) (h1 : Ns w b1 V1 l) (h2 : Ns w b2 V2 m) (hl : l.length ≤ 1000) (hm : m.length ≤ 1000) : Calls Try.prog 20 #[V1, V2] w fun e w' => e = .returned (.bool (decide (l = m))) ∧ Kp w w' [] := by
  obtain ⟨a1, c1, rfl⟩ := h1.slice
  obtain ⟨a2, c2, rfl⟩ := h2.slice
  by_cases hlen : l.length = m.length
  · have hn : ((l.length : Int) != (m.length : Int)) = false := by simp [hlen]
    have H1 := hid h1
    have H2 := hid h2
    have HL := hid hlen
    clear h1 h2
    rw [← hlen] at hm ⊢
    clear hlen
    go_enter Try.func20, Try.ntmps20
    go_wp2
    go_loopw [5] (fun v wr => ∃ k : Nat, k ≤ l.length ∧ v = .int .i64 k ∧ Hid (l.take k = m.take k) ∧ Hid (Kp w wr []))
      (fun v _ => l.length - (intOf v).toNat)
    case atStart => exact ⟨0, Nat.zero_le _, rfl, rfl, Kp.refl _ _⟩
    case round =>
      obtain ⟨k, hk, rfl, hT, hK⟩ := hrel
      by_cases hlt : k < l.length
      · have hltI : (k : Int) < (l.length : Int) := by omega
        have hx : l[k]? = some l[k] := List.getElem?_eq_getElem hlt
        have hkm : k < m.length := by have := HL.out; omega
        have hy : m[k]? = some m[k] := List.getElem?_eq_getElem hkm
        obtain ⟨x, hxe⟩ : ∃ x, l[k] = x := ⟨_, rfl⟩
        obtain ⟨y, hye⟩ : ∃ y, m[k] = y := ⟨_, rfl⟩
        rw [hxe] at hx
        rw [hye] at hy
        obtain ⟨g1, rfl, -, -, x1⟩ := (H1.out.keep hK.out).at hx
        have x2 := (H2.out.keep hK.out)
        have HS := hid (prefix_step hx hy hT.out)
        obtain ⟨g2, rfl, -, -, y1⟩ := x2.at hy
        clear x2 hx hy hxe hye
        by_cases hxy : x = y
        · have hne : ((x : Int) != (y : Int)) = false := by simp [hxy]
          have HX := hid hxy
          clear hxy
          go_wp2
          go_quiet (fail)
          go_wp2
          go_roundw
          case rel => exact ⟨k + 1, by omega, by simp, HS.out.2 HX.out, hK.out.trans (Kp.drewN _ _ _)⟩
          case measure => simp [intOf]; omega
        · have hne : ((x : Int) != (y : Int)) = true := by simp; omega
          have HX := hid (show decide (l = m) = false by
            simp only [decide_eq_false_iff_not]
            intro e
            exact hxy (HS.out.1 (by rw [e])))
          clear hxy
          go_wp2
          go_quiet (fail)
          go_wp2
          go_ret
          exact ⟨by rw [HX.out]; rfl, hK.out.trans (Kp.drewN _ _ _)⟩
      · have hltI : ¬ (k : Int) < (l.length : Int) := by omega
        have HX := hid (show decide (l = m) = true by
          have := hT.out
          rw [List.take_of_length_le (by omega), List.take_of_length_le (by have := HL.out; omega)] at this
          simp [this])
        go_wp2
        go_ret
        exact ⟨by rw [HX.out]; rfl, hK.out⟩
  · have hn : ((l.length : Int) != (m.length : Int)) = true := by simp; omega
    rw [show decide (l = m) = false by simp only [decide_eq_false_iff_not]; rintro rfl; exact hlen rfl]
    clear hlen h1 h2
    go_enter Try.func20, Try.ntmps20
    go_wp2
    go_ret
    exact ⟨rfl, Kp.refl _ _⟩
end Go.Proofs.Ytclbphnelfacfaa
