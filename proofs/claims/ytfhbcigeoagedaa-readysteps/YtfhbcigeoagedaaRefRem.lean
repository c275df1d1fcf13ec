/- The reference: Remove. -/
import Derived.Test.YtfhbcigeoagedaaRefPut
namespace Go.Proofs.Ytfhbcigeoagedaa
open Go.RowKit Go.Shelf

set_option maxRecDepth 100000 in
theorem rrem_err (w : World) (qb : Nat) (L : Ls) (t : Int) (h : Rq w qb L) (hl : ∀ p, (L p).length ≤ 1000) (he : remE L t ≠ 0) : Calls Try.prog 24 #[.pointer (some ⟨qb, 0, none⟩), .int .i64 t] w fun e w' => e = .returned (.int .i64 (remE L t)) ∧ w' = w := by
  have cp := rprio_any w qb L t h hl
  rcases rem_cases L t with ⟨ha, e1, -⟩ | ⟨T, rfl, t1, ⟨h0, e1, -⟩ | ⟨h0, e1, -⟩⟩
  · rw [e1]
    clear h hl he cp e1
    by_cases ht1 : t < 0
    · go_enter Try.func24, Try.ntmps24
      go_wp2
      go_ret
      exact ⟨rfl, rfl⟩
    have ht2 : 16 ≤ t := by omega
    go_enter Try.func24, Try.ntmps24
    go_wp2
    go_ret
    exact ⟨rfl, rfl⟩
  · rw [e1]
    have hI : prI L (T : Int) = prN L T 31 := by unfold prI; rw [if_pos (by omega), Int.toNat_natCast]
    rw [hI, h0] at cp
    clear h hl he e1 hI
    have q3 : ¬ (T : Int) < 0 := by omega
    have q4 : ¬ (16 : Int) ≤ (T : Int) := by omega
    go_enter Try.func24, Try.ntmps24
    go_wp2_with (go_at_call 29; refine cp.mono ?_; rintro e w' ⟨rfl, rfl⟩)
    go_ret
    exact ⟨rfl, rfl⟩
  · exact absurd e1 he

theorem filter_step {l : List Nat} {i x T : Nat} (hx : l[i]? = some x) : (l.take (i + 1)).filter (fun y => decide (y ≠ T)) = (l.take i).filter (fun y => decide (y ≠ T)) ++ (if x ≠ T then [x] else []) := by
  rw [List.take_add_one, hx, List.filter_append]
  congr 1
  by_cases e : x = T <;> simp [e]

set_option maxRecDepth 100000 in
set_option maxHeartbeats 2000000 in
theorem rrem_ok (w : World) (qb T P : Nat) (L : Ls) (h : Rq w qb L) (hl : ∀ p, (L p).length ≤ 1000) (t1 : T < 16) (hP : prN L T 31 = P) (p1 : 1 ≤ P) (p2 : P ≤ 31) : Calls Try.prog 24 #[.pointer (some ⟨qb, 0, none⟩), .int .i64 T] w fun e w' => e = .returned (.int .i64 0) ∧ Rq w' qb (updL L P ((L P).filter (fun x => decide (x ≠ T)))) ∧ Kp w w' [qb] := by
  have cp := rprio_any w qb L T h hl
  have hI : prI L (T : Int) = prN L T 31 := by unfold prI; rw [if_pos (by omega), Int.toNat_natCast]
  rw [hI, hP, show decide (P ≠ 0) = true by simp; omega] at cp
  have HQ := hid h
  obtain ⟨F, hF, hN⟩ := h
  have hNk := hN P (by omega)
  obtain ⟨ao, cap, hv⟩ := hNk.slice
  have cF := Rq.cell hF P (by omega)
  rw [hv] at cF hNk
  have HN := hid hNk
  have HF := hid hF
  have hlk := hl P
  have hqlt := lt_of_block hF
  have hP32 : P < 32 := by omega
  have hP32' : (P : Int) < 32 := by omega
  have CK := hid (fun (w1 : World) (hk : Kp w w1 []) => show w1.cell? ⟨qb, P, none⟩ = some (.slice ao (L P).length cap) ∧ w1.frozen? ⟨qb, P, none⟩ = false from ⟨hk.cell cF (by simp), by simp [World.frozen?, (hk.block qb hqlt (by simp)).trans hF]⟩)
  clear hF hN hNk hv hI hl
  have q3 : ¬ (T : Int) < 0 := by omega
  have q4 : ¬ (16 : Int) ≤ (T : Int) := by omega
  go_enter Try.func24, Try.ntmps24
  go_wp2_with (go_at_call 29; refine cp.mono ?_; rintro e w' ⟨rfl, rfl⟩)
  go_loopw [7, 8] (fun v vi wr => ∃ (i : Nat) (ao1 : Option Addr) (n1 cp1 : Nat), i ≤ (L P).length ∧ v = .slice ao1 n1 cp1 ∧ vi = .int .i64 i ∧ Hid (Ns wr w'.heap.size (.slice ao1 n1 cp1) (((L P).take i).filter (fun x => decide (x ≠ T)))) ∧ Hid (Kp w' wr [])) (fun _ vi _ => (L P).length - (intOf vi).toNat)
  case atStart => exact ⟨0, none, 0, 0, Nat.zero_le _, rfl, rfl, Ns.nil _ _, Kp.refl _ _⟩
  case round =>
    obtain ⟨i, ao1, n1, cp1, hi, rfl, rfl, hN1, hK1⟩ := hrel
    obtain ⟨c1, f1⟩ := CK.out _ hK1.out
    by_cases hil : i < (L P).length
    · have hilI : (i : Int) < ((L P).length : Int) := by omega
      have hx : (L P)[i]? = some (L P)[i] := List.getElem?_eq_getElem hil
      obtain ⟨x, hxe⟩ : ∃ x, (L P)[i] = x := ⟨_, rfl⟩
      rw [hxe] at hx
      obtain ⟨g, rfl, -, -, cx⟩ := (HN.out.keep hK1.out).at hx
      have HX := hid (filter_step (T := T) hx)
      have hle : (((L P).take i).filter (fun x => decide (x ≠ T))).length ≤ 1000 := by
        have h1 := List.length_filter_le (fun x => decide (x ≠ T)) ((L P).take i)
        have h2 := List.length_take_le i (L P)
        omega
      clear hx hxe
      obtain ⟨fl, hfl⟩ : ∃ fl, ((L P).take i).filter (fun x => decide (x ≠ T)) = fl := ⟨_, rfl⟩
      rw [hfl] at HX hle hN1
      clear hfl
      by_cases hxt : x = T
      · have hne : ((x : Int) != (T : Int)) = false := by simp [hxt]
        have HE := hid (show ((L P).take (i + 1)).filter (fun y => decide (y ≠ T)) = fl by rw [HX.out]; simp [hxt])
        clear hxt
        go_wp2
        go_roundw
        case rel => exact ⟨i + 1, ao1, n1, cp1, by omega, rfl, by simp, by rw [HE.out]; exact hN1.out, hK1⟩
        case measure => simp [intOf]; omega
      · have hne : ((x : Int) != (T : Int)) = true := by simp; omega
        have HE := hid (show ((L P).take (i + 1)).filter (fun y => decide (y ≠ T)) = fl ++ [x] by rw [HX.out]; simp [hxt])
        clear hxt HX
        have hsz : w'.heap.size ≤ wr.heap.size := hK1.out.size
        go_wp2_with (refine wpList_push rfl (.tmp 47) (.tmp 57) rfl w'.heap.size (.slice ao1 n1 cp1) fl x rfl hN1.out rfl (by omega) hsz ?_; intro v2 w2 hN2 hG2; obtain ⟨ao2, cp2, hv2⟩ := hN2.slice; rw [List.length_append, List.length_cons, List.length_nil, Nat.zero_add] at hv2; subst hv2; have K2 := hid (grown_kp hN1.out hG2 hK1.out (Nat.le_refl _)); have N2 := hid hN2; clear hN2 hG2)
        go_roundw
        case rel => exact ⟨i + 1, ao2, fl.length + 1, cp2, by omega, rfl, by simp, by rw [HE.out]; exact N2.out, K2⟩
        case measure => simp [intOf]; omega
    · have hilI : ¬ (i : Int) < ((L P).length : Int) := by omega
      have hV := hN1.out
      rw [List.take_of_length_le (by omega)] at hV
      have HS := hid (HQ.out.set hK1.out hP32 (hV.low (Nat.zero_le _)))
      clear hV
      go_wp2
      go_ret
      exact ⟨rfl, by simpa using HS.out.1, HS.out.2⟩
end Go.Proofs.Ytfhbcigeoagedaa
