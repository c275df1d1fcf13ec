/- The reference: ask, Waiting, Order. -/
import Derived.BigQuiet
import Derived.Deep.RegionHeldLaw
import Derived.Deep.RegionWith
import Derived.Test.YtllkopekfanfaaaRm
import Derived.Test.YtllkopekfanfaaaRord
namespace Go.Proofs.Ytllkopekfanfaaa
open Go.RowKit Go.Shelf Go.Lib Go.Sort Go.Maps
attribute [local go_sem] Oper.semAt_some

variable {w w' : World} {rb sb tb : Nat} {V : Value} {Rl : Ml} {g : Nat → Int × Int} {M : Qs}
def askE (t p : Int) : Int := if mayT t && mayP p then 0 else 2
set_option maxRecDepth 100000 in
theorem ask_any (w : World) (b : Nat) (t p : Int) : Calls Try.prog 59 #[.pointer (some ⟨b, 0, none⟩), .int .i64 t, .int .i64 p] w fun e w' => e = .returned (.int .i64 (askE t p)) ∧ w' = w := by
  unfold askE mayT mayP
  by_cases h0 : 0 ≤ t <;> by_cases h1 : t < 16 <;> by_cases h2 : 1 ≤ p <;> by_cases h3 : p ≤ 31
  all_goals (
    go_enter Try.func59, Try.ntmps59
    go_wp2
    all_goals (
      go_ret
      exact ⟨by simp [*], rfl⟩))
set_option maxRecDepth 100000 in
theorem rwaiting_any (h : Ri w rb sb tb V Rl g M) (t : Int) : Calls Try.prog 37 #[.pointer (some ⟨rb, 0, none⟩), .int .i64 t] w fun e w' => e = .returned (.tuple #[.bool (wSend M t), .bool (wAny M t)]) ∧ w' = w := by
  have c2 := h.c2
  have c3 := h.c3
  have HA := hid (rprio_any w sb _ t h.rs h.os)
  have HB := hid (rprio_any w tb _ t h.rr h.or)
  unfold wSend wAny
  generalize hasP M.s t = A at *
  generalize hasP M.r t = B at *
  generalize getP M.s t = X at *
  generalize getP M.r t = Y at *
  clear h
  cases A
  all_goals (
    go_enter Try.func37, Try.ntmps37
    go_wp2_with fail
    refine HA.out.mono ?_
    rintro e w1 ⟨rfl, hw⟩; obtain rfl := hw.symm
    go_wp2_with fail
    refine HB.out.mono ?_
    rintro e w2 ⟨rfl, hw⟩; obtain rfl := hw.symm
    go_wp2
    go_ret2
    exact ⟨rfl, rfl⟩)
set_option maxRecDepth 100000 in
set_option maxHeartbeats 2000000 in
theorem rorderM_any (w : World) (rb sb tb : Nat) (v : Value) (L : Ml) (g : Nat → Int × Int) (M : Qs) (h : Ri w rb sb tb v L g M) :
    Calls Try.prog 33 #[.pointer (some ⟨rb, 0, none⟩)] w fun e w' => ∃ v, e = .returned v ∧ Mr w' w.heap.size v M.L ∧ Kp w w' [] := by
  have hlen := h.len
  have hb := h.c1
  have hd := h.ms
  have hor := h.ord
  obtain ⟨ao, cap, rfl⟩ := hd.slice
  obtain ⟨N, hN⟩ : ∃ N, L.length = N := ⟨_, rfl⟩
  rw [hN] at hb hlen
  have HD := hid hd
  rw [hN] at HD
  have HN := hid hN
  have HC := hid (show ∀ W, Kp w W [] → W.cell? ⟨rb, 1, none⟩ = some (.slice ao N cap) from fun W hk => hk.cell hb (by simp))
  have HL := hid (show ∀ k i, k ≤ 32 → (ordK L k ++ fk (31 - k) (L.take i)).length ≤ 100000 from fun k i hk => by
    have h1 : ∀ k : Nat, (ordK L k).length ≤ k * 32 := fun k => by
      induction k with
      | zero => simp [ordK]
      | succ k ih =>
        unfold ordK
        rw [List.length_append]
        have := List.length_filter_le (fun x : Dl => x.2 == 31 - (k : Int)) L
        unfold fk
        omega
    have h2 := h1 k
    have h3 := List.length_filter_le (fun x : Dl => x.2 == 31 - (k : Int)) (L.take i)
    rw [List.length_append]
    unfold fk
    rw [List.length_take] at h3
    omega)
  have HO := hid (show M.L = ordK L 32 by rw [← hor, ordM_eq])
  clear h hb hd hN hor
  go_enter Try.func33, Try.ntmps33
  go_wp2_with fail
  go_loopw [3, 4] (fun vd vp wr => ∃ (k m cp : Nat) (a1 : Option Addr), k ≤ 32 ∧ vp = .int .i64 (31 - (k : Int)) ∧ vd = .slice a1 m cp ∧ Hid (Mr wr w.heap.size (.slice a1 m cp) (ordK L k) ∧ Kp w wr [])) (fun _ vp _ => (intOf vp + 1).toNat)
  case atStart => exact ⟨0, 0, 0, none, by omega, rfl, rfl, hid ⟨Mr.nil _ _, Kp.refl _ _⟩⟩
  case round =>
    obtain ⟨k, m1, cp1, a1, hk, rfl, rfl, hR⟩ := hrel
    by_cases hlt : k < 32
    · have hltI : (0 : Int) ≤ 31 - (k : Int) := by omega
      have hwr : IntKind.i64.wrap (31 - (k : Int) - 1) = 31 - ((k + 1 : Nat) : Int) := by rw [show 31 - (k : Int) - 1 = 31 - ((k + 1 : Nat) : Int) by omega]; exact IntWalk.i64_in _ ⟨by omega, by omega⟩
      obtain ⟨P, hP⟩ : ∃ P : Int, 31 - (k : Int) = P := ⟨_, rfl⟩
      rw [hP] at hltI hwr ⊢
      have HP := hid hP
      clear hP
      go_wp2_with fail
      go_loopw [3, 5] (fun vd vi wx => ∃ (i m cp : Nat) (a2 : Option Addr), i ≤ N ∧ vi = .int .i64 i ∧ vd = .slice a2 m cp ∧ Hid (Mr wx w.heap.size (.slice a2 m cp) (ordK L k ++ fk P (L.take i)) ∧ Kp w wx [])) (fun _ vi _ => N - (intOf vi).toNat)
      case atStart => exact ⟨0, m1, cp1, a1, by omega, rfl, rfl, hid ⟨by simpa [fk] using hR.out.1, hR.out.2⟩⟩
      case round =>
        obtain ⟨i, m2, cp2, a2, hi, rfl, rfl, hR2⟩ := hrel
        have cc := HC.out _ hR2.out.2
        by_cases hlt2 : i < N
        · have hltI2 : (i : Int) < N := by omega
          have hil : i < L.length := by have := HN.out; omega
          obtain ⟨x1, x2, hx⟩ : ∃ x1 x2, L[i]! = (x1, x2) := ⟨L[i]!.1, L[i]!.2, rfl⟩
          have hx0 : L[i]? = some (x1, x2) := by rw [← hx, List.getElem?_eq_getElem hil, getElem!_pos L i hil]
          obtain ⟨g, rfl, c1, c2⟩ := (HD.out.keep hR2.out.2).at hx0
          have HS := hid (fk_snoc P L hil)
          rw [hx] at HS
          by_cases he : x2 = P
          · have heI : (x2 == P) = true := by simp [he]
            have kk := Kp.alloc wr (.cells #[.int .i64 x1, .int .i64 x2] 34) []
            have R1 := hid (And.intro (hR2.out.1.keep kk) (hR2.out.2.trans kk))
            have HB := hid (show (ordK L k ++ fk P (L.take i)).length ≤ 1000000 by rw [← HP.out]; have := HL.out k i (by omega); omega)
            have HSS := hid (show fk P (L.take (i + 1)) = fk P (L.take i) ++ [(x1, x2)] by rw [HS.out, if_pos he])
            clear he hx hx0 kk hR2
            go_wp2_with (refine wpList_joinM rfl _ _ rfl w.heap.size (.slice a2 m2 cp2) _ (ordK L k ++ fk P (L.take i)) [(x1, x2)] rfl R1.out.1 rfl (wm_one wr x1 x2 (x1, x2) rfl rfl) HB.out (by simp) R1.out.2.size ?_; intro v3 w3 hN3 hG3; obtain ⟨a3, c3, hv3⟩ := hN3.slice; have K3 := hid (And.intro hN3 (grown_mr R1.out.1 hG3 R1.out.2 (Nat.le_refl _))); obtain ⟨m3, hm3⟩ : ∃ m3, (ordK L k ++ fk P (L.take i) ++ [(x1, x2)]).length = m3 := ⟨_, rfl⟩; rw [hm3] at hv3; subst hv3; clear hN3 hG3 hm3)
            go_roundw
            case rel =>
              refine ⟨i + 1, m3, c3, a3, by omega, by simp, rfl, hid ?_⟩
              rw [HSS.out, ← List.append_assoc]
              exact K3.out
            case measure => simp [intOf]; omega
          · have heI : (x2 == P) = false := by simp [he]
            have R2 := hid (show Mr wr w.heap.size (.slice a2 m2 cp2) (ordK L k ++ fk P (L.take (i + 1))) ∧ Kp w wr [] by
              rw [HS.out, if_neg he]; exact hR2.out)
            clear he hx hx0 hR2
            go_wp2
            go_roundw
            case rel => exact ⟨i + 1, m2, cp2, a2, by omega, by simp, rfl, R2⟩
            case measure => simp [intOf]; omega
        · have hltI2 : ¬ (i : Int) < N := by omega
          have R2 := hid (show Mr wr w.heap.size (.slice a2 m2 cp2) (ordK L (k + 1)) ∧ Kp w wr [] by
            have h1 := hR2.out
            rw [List.take_of_length_le (by have := HN.out; omega), ← HP.out] at h1
            exact h1)
          clear hR2
          go_wp2
          go_roundw
          case rel => exact ⟨k + 1, m2, cp2, a2, by omega, by simp, rfl, R2⟩
          case measure => simp [intOf]; have := HP.out; omega
    · have hk31 : k = 32 := by omega
      subst hk31
      have HF := hid hR.out
      clear hR
      go_wp2
      go_ret
      exact ⟨_, rfl, by rw [HO.out]; exact HF.out.1, HF.out.2⟩
end Go.Proofs.Ytllkopekfanfaaa
