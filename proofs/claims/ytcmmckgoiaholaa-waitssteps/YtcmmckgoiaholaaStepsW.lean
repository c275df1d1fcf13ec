/- WaitsSteps' walk. -/
import Derived.Test.YtcmmckgoiaholaaStands
import Derived.Test.YtcmmckgoiaholaaSides
namespace Go.Proofs.Ytcmmckgoiaholaa
open Go.RowKit Go.Shelf Go.Lib Go.Sort Go.Maps

/-- One side alone. -/
structure Os1 (w0 W : World) (b r : Nat) : Prop where
  ex : ∃ R L, Sd w0 W b r R L
  kp : Kp w0 W []
theorem Os1.step {w0 W : World} {b r : Nat} (h : Os1 w0 W b r) (k t p : Int) : Calls Try.prog 8 #[.pointer (some ⟨b, 0, none⟩), .pointer (some ⟨r, 0, none⟩), .agg #[.int .i64 k, .int .i64 t, .int .i64 p]] W fun e w' => ∃ b', e = .returned (.tuple #[.pointer (some ⟨b', 0, none⟩), .pointer (some ⟨r, 0, none⟩), .bool true]) ∧ Os1 w0 w' b' r := by
  obtain ⟨R, L, h1⟩ := h.ex
  have hs := h.kp.size
  refine (do_any W b r R L k t p h1.wr h1.rf).mono ?_
  rintro e w' ⟨b', R', rfl, c1, c2, c3, c4⟩
  refine ⟨b', rfl, ⟨R', _, ⟨c1, c2, fun x hx => ?_⟩⟩, h.kp.past c4 (fun x hx hl => by have := h1.ge x hx; omega)⟩
  rcases List.mem_cons.1 hx with rfl | hx
  · exact h1.ge _ (by simp)
  · rcases c3 x hx with q | q
    · exact h1.ge x (by simp [q])
    · omega
theorem Os1.stands {w0 W : World} {b r : Nat} (h : Os1 w0 W b r) (leave : Int) : Calls Try.prog 9 #[.pointer (some ⟨b, 0, none⟩), .pointer (some ⟨r, 0, none⟩), .int .i64 leave] W fun e w' => e = .returned (.bool true) ∧ Os1 w0 w' b r := by
  obtain ⟨R, L, h1⟩ := h.ex
  refine (stands_any W b r R L leave h1.wr h1.rf).mono ?_
  rintro e w' ⟨rfl, hk⟩
  exact ⟨rfl, ⟨R, L, h1.keep hk⟩, h.kp.trans hk⟩
set_option maxRecDepth 100000 in
set_option maxHeartbeats 4000000 in
theorem steps_walk (w : World) (V : Value) (N : Nat) (S : Nat → Sp) (hV : Sc w V N S) (leave : Int) :
    Calls Try.prog 3 #[V, .int .i64 leave] w fun e w' => e = .returned (.bool true) ∧ Kp w w' [] := by
  obtain ⟨so, sc, rfl⟩ := hV.shape
  have HV := hid hV
  clear hV
  go_enter Try.func3, Try.ntmps3
  go_wp2_with fail
  refine (new_any _).mono ?_
  rintro e w2 ⟨xb, pb, rfl, hx, hx1, hx2, hxk⟩
  have ka := Kp.alloc w2 (.cells #[.slice none 0 0] 28) []
  have D0 := hid (show Os1 w (w2.alloc (.cells #[.slice none 0 0] 28)) xb w2.heap.size from ⟨⟨_, [], ⟨⟨pb, _, rfl, hx.same ka⟩, rf_new w2, fun k hk => by have := hxk.size; simp [rows, Value.ownBlock] at hk; omega⟩⟩, hxk.trans ka⟩)
  obtain ⟨r, hr⟩ : ∃ r, w2.heap.size = r := ⟨_, rfl⟩
  rw [hr] at D0
  clear hx hx1 hx2 hxk ka
  go_wp2_with fail
  clear hr
  go_loopw [5, 6, 7] (fun vx vp vi W => ∃ (i b : Nat), i ≤ 200 ∧ vi = .int .i64 i ∧ vx = .pointer (some ⟨b, 0, none⟩) ∧ vp = .pointer (some ⟨r, 0, none⟩) ∧ Hid (Os1 w W b r)) (fun _ _ vi _ => 200 - (intOf vi).toNat)
  case atStart => exact ⟨0, xb, by omega, rfl, rfl, rfl, D0.out⟩
  case round =>
    obtain ⟨i, b, hi, rfl, rfl, rfl, hT⟩ := hrel
    clear D0
    by_cases hin : i < N ∧ i < 200
    · have h1 : (i : Int) < N := by omega
      have h2 : (i : Int) < 200 := by omega
      obtain ⟨sb, off, rfl, y0, y1, y2⟩ := (HV.out.keep hT.out.kp).at hin.1
      go_wp2_with fail
      refine (hT.out.step (S i).k (S i).t (S i).p).mono ?_
      rintro e W3 ⟨b', rfl, hT2⟩
      have T2 := hid hT2
      clear hT2 hT y0 y1 y2
      go_wp2_with fail
      refine (T2.out.stands leave).mono ?_
      rintro e W4 ⟨rfl, hT3⟩
      have T3 := hid hT3
      clear hT3 T2
      go_wp2
      go_roundw
      case rel => exact ⟨i + 1, b', by omega, by simp, rfl, rfl, T3.out⟩
      case measure => simp [intOf]; omega
    · have hx : ¬ (i : Int) < N ∨ ((i : Int) < N ∧ ¬ (i : Int) < 200) := by omega
      clear hin
      have K6 := hid hT.out.kp
      clear hT
      rcases hx with h1 | ⟨h1, h2⟩
      all_goals go_wp2_with fail
      all_goals
        refine (known_any _).mono ?_
        rintro e W7 ⟨rfl, k7⟩
        have K7 := hid (K6.out.trans k7)
        clear k7 K6
        go_wp2
        go_ret
        exact ⟨rfl, K7.out⟩
end Go.Proofs.Ytcmmckgoiaholaa
