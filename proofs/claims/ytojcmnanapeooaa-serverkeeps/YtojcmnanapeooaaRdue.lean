/- The reference: Due. -/
import Derived.Test.YtojcmnanapeooaaRdo
namespace Go.Proofs.Ytojcmnanapeooaa
open Go.RowKit Go.Shelf
open Go.Lib hiding intOf

theorem not_snoc (l : List Dl) (x : Dl) (now : Int) : notL (l ++ [x]) now = if x.1 ≤ now then notL l now else notL l now ++ [x] := by
  unfold notL
  rw [List.filter_append]
  by_cases h : x.1 ≤ now
  · simp [h]
  · simp [h]
set_option maxRecDepth 100000 in
set_option maxHeartbeats 2000000 in
theorem rdue_any (w : World) (sb : Nat) (v : Value) (s : Sv) (now : Int) (h : Rr w sb v s) : Calls Try.prog 28 #[.pointer (some ⟨sb, 0, none⟩), .int .i64 now] w fun e w' => e = .returned (.int .i64 (dueN s now)) ∧ Rt w w' sb v (dueS s now) := by
  have HO := hid (ok_due h.ok now)
  have HA := hid (fun x hx => (h.ok.am x hx).1)
  have HB := hid (show sumA s.pcs ≤ 1099511627776 ∧ 0 ≤ s.left ∧ s.left ≤ 1099511627776 by
    have := h.ok.sum
    have := h.ok.bp
    have := h.ok.pm
    have := h.ok.all
    have := h.ok.l0
    have := h.ok.u0
    omega)
  have HPL := hid h.ok.plen
  obtain ⟨S', hS'⟩ : ∃ S', dueS s now = S' := ⟨_, rfl⟩
  rw [hS'] at HO ⊢
  have HS' := hid hS'
  obtain ⟨D, hD⟩ : ∃ D, dueN s now = D := ⟨_, rfl⟩
  rw [hD]
  have HD := hid hD
  have H := hid h
  obtain ⟨ao, cap, rfl⟩ := h.row.slice
  obtain ⟨bu, p, m, l, a, si, u, P⟩ := s
  simp only at HA HB HPL H ⊢
  obtain ⟨N, hN⟩ : ∃ N, P.length = N := ⟨_, rfl⟩
  rw [hN] at H ⊢
  have HN := hid hN
  have hNl : N ≤ 1000 := by have := HPL.out; omega
  have hsb := h.c.lt
  clear h hS' hD hN
  go_enter Try.func28, Try.ntmps28
  go_wp2_with fail
  go_loopw [5, 6, 7] (fun vs vl vi wr => ∃ (i k cp : Nat) (al : Option Addr) (t : Int), i ≤ N ∧ vi = .int .i64 i ∧ vs = .int .i64 t ∧ vl = .slice al k cp ∧ Hid (t = sumA (dueL (P.take i) now) ∧ Dr wr w.heap.size (.slice al k cp) (notL (P.take i) now) ∧ Kp w wr [])) (fun _ _ vi _ => N - (intOf vi).toNat)
  case atStart => exact ⟨0, 0, 0, none, 0, by omega, rfl, rfl, rfl, hid ⟨by simp [dueL, sumA], Dr.nil _ _, Kp.refl _ _⟩⟩
  case round =>
    obtain ⟨i, k, cp, al, t, hi, rfl, rfl, rfl, hR⟩ := hrel
    have HSr := hid (H.out.same hR.out.2.2)
    have c7 := HSr.out.c.c.2.2.2.2.2.2
    by_cases hlt : i < N
    · have hltI : (i : Int) < N := by omega
      have hil : i < P.length := by have := HN.out; omega
      obtain ⟨x1, x2, hx⟩ : ∃ x1 x2, P[i]! = (x1, x2) := ⟨P[i]!.1, P[i]!.2, rfl⟩
      obtain ⟨gg, hgg, d1, d2, -, -⟩ := HSr.out.row.at hil hx
      subst hgg
      have hlg : gg < wr.heap.size := World.block_lt_of_cell? wr _ d1
      have HX := hid hx
      have HT := hid (show sumA (dueL (P.take (i + 1)) now) = t + (if x1 ≤ now then x2 else 0) ∧ 0 ≤ sumA (dueL (P.take (i + 1)) now) ∧ sumA (dueL (P.take (i + 1)) now) ≤ 1099511627776 by
        have h1 := sum_take P now (i + 1) HA.out
        have h2 := HB.out
        refine ⟨?_, h1.1, by omega⟩
        rw [take_get hil, HX.out, due_snoc, hR.out.1])
      have HL := hid (show notL (P.take (i + 1)) now = if x1 ≤ now then notL (P.take i) now else notL (P.take i) now ++ [(x1, x2)] by
        rw [take_get hil, HX.out, not_snoc])
      have HLn := hid (show (notL (P.take i) now).length ≤ 1000 by
        have h1 : (notL (P.take i) now).length ≤ (P.take i).length := List.length_filter_le _ _
        rw [List.length_take] at h1
        omega)
      clear hx hil
      by_cases hq : x1 ≤ now
      · have hT := HT.out
        rw [if_pos hq] at hT
        have hw : IntKind.i64.wrap (t + x2) = t + x2 := by rw [IntKind.wrap_i64]; omega
        have HT1 := hid (show t + x2 = sumA (dueL (P.take (i + 1)) now) ∧ Dr wr w.heap.size (.slice al k cp) (notL (P.take (i + 1)) now) ∧ Kp w wr [] by
          rw [HL.out, if_pos hq]
          exact ⟨hT.1.symm, hR.out.2⟩)
        clear hT hR
        go_wp2_with fail
        go_roundw
        case rel => exact ⟨i + 1, k, cp, al, t + x2, by omega, by simp, rfl, rfl, HT1⟩
        case measure => simp [intOf]; omega
      · have A1 := hid (Kp.alloc wr (.cells #[.int .i64 x1, .int .i64 x2] 45) [])
        have HW := hid (hR.out.2.1.keep A1.out)
        have HO1 := hid (Dr.one wr x1 x2)
        have HS1 := hid (show w.heap.size ≤ (wr.alloc (.cells #[.int .i64 x1, .int .i64 x2] 45)).heap.size by
          have h1 := hR.out.2.2.size
          have h2 := A1.out.size
          omega)
        go_wp2_with (refine wpList_joinD rfl (.tmp 37) (.tmp 45) rfl w.heap.size wr.heap.size (.slice al k cp) (.slice (some ⟨wr.heap.size, 0, none⟩) 1 1) (notL (P.take i) now) [(x1, x2)] rfl HW.out rfl HO1.out (by have := HLn.out; omega) (by simp) HS1.out ?_; intro v3 w3 hd3 hg3; obtain ⟨a3, c3, hv3⟩ := hd3.slice; have H3 := hid (show t = sumA (dueL (P.take (i + 1)) now) ∧ Dr w3 w.heap.size v3 (notL (P.take (i + 1)) now) ∧ Kp w w3 [] from by (rw [HL.out, if_neg (by omega)]; have hT := HT.out.1; rw [if_neg (by omega)] at hT; exact ⟨by omega, hd3, grown_kp HW.out hg3 (hR.out.2.2.trans A1.out) (Nat.le_refl _)⟩)); obtain ⟨m3, hm3⟩ : ∃ m3, (notL (P.take i) now ++ [(x1, x2)]).length = m3 := ⟨_, rfl⟩; rw [hm3] at hv3; subst hv3; clear hd3 hg3 hm3)
        go_roundw
        case rel => exact ⟨i + 1, m3, c3, a3, t, by omega, by simp, rfl, rfl, H3⟩
        case measure => simp [intOf]; omega
    · have hltI : ¬ (i : Int) < N := by omega
      have hP : P.take i = P := List.take_of_length_le (by have := HN.out; omega)
      have HF := hid (show Dr wr w.heap.size (.slice al k cp) (notL P now) ∧ Kp w wr [] by
        have h1 := hR.out.2
        rw [hP] at h1
        exact h1)
      have htD : t = D := by
        have h1 := hR.out.1
        rw [hP] at h1
        rw [h1]
        exact HD.out
      subst htD
      have c3 := HSr.out.c.c.2.2.1
      have f3 := HSr.out.c.free 3
      have f7 := HSr.out.c.free 7
      have hw : IntKind.i64.wrap (l + t) = l + t := by
        have h1 := hR.out.1
        have h2 := sum_take P now i HA.out
        have h3 := HB.out
        rw [IntKind.wrap_i64]; omega
      have HE := hid (show Rt w ((wr.setCell ⟨sb, 7, none⟩ (.slice al k cp)).setCell ⟨sb, 3, none⟩ (.int .i64 (l + t))) sb (.slice ao N cap) S' by
        have kk : Kp wr ((wr.setCell ⟨sb, 7, none⟩ (.slice al k cp)).setCell ⟨sb, 3, none⟩ (.int .i64 (l + t))) [sb] := (Kp.setCell wr ⟨sb, 7, none⟩ _).trans (Kp.setCell _ ⟨sb, 3, none⟩ _)
        refine ⟨⟨.slice al k cp, ⟨?_, ?_, HO.out⟩, fun g hg => .inr (owns_block HF.out.1 hg).1⟩, HF.out.2.nil.trans (kk.mono (by intro k hk _; simp at hk; simp [hk]))⟩
        · rw [← HS'.out]
          have e0 : l + dueN ⟨bu, p, m, l, a, si, u, P⟩ now = l + t := by rw [HD.out]
          show Rc _ sb bu p m (l + dueN ⟨bu, p, m, l, a, si, u, P⟩ now) a si u _
          rw [e0]
          exact (HSr.out.c.set7 _).set3 _
        · rw [← HS'.out]
          exact (HF.out.1.low (Nat.zero_le _)).kp kk fun g hg e => HF.out.1.apart HSr.out.c (by decide) (by simp only [List.mem_singleton] at e; rw [← e]; exact hg))
      clear hR hP
      go_wp2_with fail
      go_ret
      exact ⟨rfl, HE.out⟩
end Go.Proofs.Ytojcmnanapeooaa
