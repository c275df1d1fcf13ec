/- One side; two sides, apart. -/
import Derived.Test.YtllkopekfanfaaaSt
import Derived.Test.YtllkopekfanfaaaKn
import Derived.Test.YtllkopekfanfaaaArgs
namespace Go.Proofs.Ytllkopekfanfaaa
open Go.RowKit Go.Shelf Go.Lib Go.Sort Go.Maps
attribute [local go_sem] Oper.semAt_some

/-- One side, made behind w0. -/
def Oc (w0 W : World) (qb rb : Nat) : Prop := ∃ Q M, Pa W qb rb Q M ∧ (∀ k ∈ Q, w0.heap.size ≤ k) ∧ Kp w0 W []
section
variable {w0 W W' : World} {qb rb : Nat}
theorem Oc.kp (h : Oc w0 W qb rb) : Kp w0 W [] := by
  obtain ⟨Q, M, -, -, h⟩ := h
  exact h
theorem Oc.same (h : Oc w0 W qb rb) (hk : Kp W W' []) : Oc w0 W' qb rb := by
  obtain ⟨Q, M, h1, h2, h3⟩ := h
  exact ⟨Q, M, h1.same hk, h2, h3.trans hk⟩
theorem Oc.step (h : Oc w0 W qb rb) (k t p x y : Int) (hi : i64 t) : Calls Try.prog 11 #[.pointer (some ⟨qb, 0, none⟩), .pointer (some ⟨rb, 0, none⟩), .agg #[.int .i64 k, .int .i64 t, .int .i64 p, .int .i64 x, .int .i64 y]] W fun e w' => ∃ qb', e = .returned (.tuple #[.pointer (some ⟨qb', 0, none⟩), .pointer (some ⟨rb, 0, none⟩), .bool true]) ∧ Oc w0 w' qb' rb := by
  obtain ⟨Q, M, HP, h3, h4⟩ := h
  refine (do_any W qb rb Q M k t p x y hi HP).mono ?_
  rintro e w' ⟨qb', Q', rfl, h1, h2, hk⟩
  refine ⟨qb', rfl, Q', _, h1, fun x hx => ?_, h4.past hk (fun x hx hl => by have := h3 x hx; omega)⟩
  rcases h2 x hx with q | q
  · exact h3 x q
  · have := h4.size; omega
theorem Oc.stands (h : Oc w0 W qb rb) (leave : Int) : Calls Try.prog 12 #[.pointer (some ⟨qb, 0, none⟩), .pointer (some ⟨rb, 0, none⟩), .int .i64 leave] W fun e w' => e = .returned (.bool true) ∧ Kp W w' [] := by
  obtain ⟨Q, M, HP, -⟩ := h
  exact stands_any W qb rb Q M leave HP
theorem pa_new {A B C D : World} {c r sb tb : Nat} {R1 : List Nat} {n : Int} (ok : Qok (newQ n)) (h1 : Qc B c R1 (newQ n)) (f1 : ∀ k ∈ R1, A.heap.size ≤ k) (k1 : Kp B C []) (h2 : Rq D r sb tb none (newQ n)) (f2 : C.heap.size ≤ r) (f3 : C.heap.size ≤ sb) (f4 : C.heap.size ≤ tb) (k2 : Kp C D []) : Pa D c r (R1 ++ [r, sb, tb]) (newQ n) ∧ ∀ k ∈ R1 ++ [r, sb, tb], (A.heap.size ≤ k ∧ k < B.heap.size) ∨ (C.heap.size ≤ k ∧ k < D.heap.size) := by
  have := k1.size
  have hl := h2.lt
  refine ⟨⟨R1, sb, tb, none, by simp, (h1.same k1).same k2, h2, fun k hk hm => ?_, ok⟩, fun k hk => ?_⟩
  · have := h1.lt _ hk
    simp at hm
    omega
  · simp only [List.mem_append, List.mem_cons, List.not_mem_nil, or_false] at hk
    rcases hk with hk | rfl | rfl | rfl
    · exact .inl ⟨f1 k hk, h1.lt k hk⟩
    · exact .inr ⟨f2, hl _ (by simp)⟩
    · exact .inr ⟨f3, hl _ (by simp)⟩
    · exact .inr ⟨f4, hl _ (by simp)⟩
theorem Oc.new {w w1 w2 : World} {sb tb : Nat} {R1 : List Nat} {n : Int} (ok : Qok (newQ n)) (h1 : Qc w1 qb R1 (newQ n)) (f1 : ∀ k ∈ R1, w.heap.size ≤ k) (k1 : Kp w w1 []) (h2 : Rq w2 rb sb tb none (newQ n)) (f2 : w1.heap.size ≤ rb) (f3 : w1.heap.size ≤ sb) (f4 : w1.heap.size ≤ tb) (k2 : Kp w1 w2 []) : Oc w w2 qb rb := by
  have := k1.size
  obtain ⟨a, b⟩ := pa_new ok h1 f1 (Kp.refl _ _) h2 f2 f3 f4 k2
  exact ⟨_, _, a, fun k hk => by have := b k hk; omega, k1.trans k2⟩
end
end Go.Proofs.Ytllkopekfanfaaa

/- QueueSteps' walk. -/
namespace Go.Proofs.Ytllkopekfanfaaa
open Go.RowKit Go.Shelf Go.Lib Go.Sort Go.Maps
attribute [local go_sem] Oper.semAt_some

set_option maxRecDepth 100000 in
set_option maxHeartbeats 4000000 in
theorem steps_walk (w : World) (room : Int) (V : Value) (N : Nat) (F : Nat → Stp) (leave : Int) (hV : Scr w V N F) : Calls Try.prog 3 #[.int .i64 room, V, .int .i64 leave] w fun e w' => e = .returned (.bool true) ∧ Kp w w' [] := by
  obtain ⟨so, sc, rfl⟩ := hV.shape
  have HV := hid hV
  clear hV
  by_cases hn : 1 ≤ room ∧ room ≤ 32
  · have HN := hid hn
    clear hn
    go_enter Try.func3, Try.ntmps3
    go_wp2_with fail
    refine (new_ok w room HN.out.1 HN.out.2).mono ?_
    rintro e w1 ⟨⟨qb, R1, rfl, hx, hx1⟩, hx2⟩
    have X1 := hid (And.intro hx (And.intro hx1 hx2))
    clear hx hx1 hx2
    go_wp2_with fail
    refine (rnew_ok w1 room HN.out.1 HN.out.2).mono ?_
    rintro e w2 ⟨⟨rb, sb, tb, rfl, hr, hr1, hr2, hr3⟩, hr4⟩
    have D1 := hid (Oc.new (Qok.new HN.out.1 HN.out.2) X1.out.1 X1.out.2.1 X1.out.2.2 hr hr1 hr2 hr3 hr4)
    clear hr hr1 hr2 hr3 hr4 X1
    go_wp2_with fail
    refine (num_any _ _).mono ?_
    rintro e _ ⟨rfl, rfl⟩
    go_wp2_with fail
    go_loopw [7, 9, 10] (fun vx vp vi W => ∃ (i b : Nat), i ≤ 200 ∧ vi = .int .i64 i ∧ vx = .pointer (some ⟨b, 0, none⟩) ∧ vp = .pointer (some ⟨rb, 0, none⟩) ∧ Hid (Oc w W b rb)) (fun _ _ vi _ => 200 - (intOf vi).toNat)
    case atStart => exact ⟨0, qb, by omega, rfl, rfl, rfl, D1.out⟩
    case round =>
      obtain ⟨i, b, hi, rfl, rfl, rfl, hT⟩ := hrel
      clear D1
      by_cases hin : i < N ∧ i < 200
      · have h1 : (i : Int) < N := by omega
        have h2 : (i : Int) < 200 := by omega
        obtain ⟨gb, off, rfl, y0, y1, y2, y3, y4⟩ := (HV.out.keep hT.out.kp).at hin.1
        have HU := hid (HV.out.i64t hin.1)
        go_wp2_with fail
        refine (hT.out.step (F i).k (F i).t (F i).n (F i).v (F i).x HU.out).mono ?_
        rintro e W3 ⟨b', rfl, hT2⟩
        have T2 := hid hT2
        clear hT hT2 y0 y1 y2 y3 y4
        go_wp2_with fail
        refine (T2.out.stands leave).mono ?_
        rintro e W4 ⟨rfl, hk⟩
        have T3 := hid (T2.out.same hk)
        clear hk T2
        go_wp2
        go_roundw
        case rel => exact ⟨i + 1, b', by omega, by simp, rfl, rfl, T3.out⟩
        case measure => simp [intOf]; omega
      · have hx : ¬ (i : Int) < N ∨ ((i : Int) < N ∧ ¬ (i : Int) < 200) := by omega
        clear hin
        have K6 := hid hT.out.kp
        clear hT
        rcases hx with h1 | ⟨h1, h2⟩
        all_goals go_wp2_with fail
        all_goals
          refine (known_any _).mono ?_
          rintro e W7 ⟨rfl, k7⟩
          have K7 := hid (K6.out.trans k7)
          clear k7 K6
          go_wp2
          go_ret
          exact ⟨rfl, K7.out⟩
  · have HN := hid hn
    clear hn
    go_enter Try.func3, Try.ntmps3
    go_wp2_with fail
    refine (new_bad w room HN.out).mono ?_
    rintro e w1 ⟨rfl, k1⟩
    have K1 := hid k1
    clear k1
    go_wp2_with fail
    refine (rnew_bad w1 room HN.out).mono ?_
    rintro e w2 ⟨rfl, k2⟩
    have K2 := hid (K1.out.trans k2)
    clear k2 K1
    go_wp2_with fail
    refine (num_any _ _).mono ?_
    rintro e _ ⟨rfl, rfl⟩
    go_wp2_with fail
    refine (known_any _).mono ?_
    rintro e w3 ⟨rfl, k3⟩
    have K3 := hid (K2.out.trans k3)
    clear k3 K2
    go_wp2
    go_ret
    exact ⟨rfl, K3.out⟩
end Go.Proofs.Ytllkopekfanfaaa
