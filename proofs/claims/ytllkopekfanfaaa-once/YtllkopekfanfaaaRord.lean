/- The reference: Order, List, First, Take, Clear, Same. -/
import Derived.Test.YtllkopekfanfaaaRput
namespace Go.Proofs.Ytllkopekfanfaaa
open Go.RowKit Go.Shelf Go.Lib Go.Sort Go.Maps

theorem fk_snoc (t : Int) (L : List Dl) {i : Nat} (hi : i < L.length) : fk t (L.take (i + 1)) = if L[i]!.2 = t then fk t (L.take i) ++ [L[i]!] else fk t (L.take i) := by
  rw [take_get hi, fk_append, fk_cons]
  split
  · rfl
  · simp [fk]
set_option maxRecDepth 100000 in
set_option maxHeartbeats 2000000 in
theorem rorder_any (w : World) (rb : Nat) (L : List Dl) (h : Rf w rb L) (hok : okL L) :
    Calls Try.prog 64 #[.pointer (some ⟨rb, 0, none⟩)] w fun e w' => ∃ v, e = .returned v ∧ Dr w' w.heap.size v (ordL L) ∧ Kp w w' [] := by
  have hlen := hok.len
  obtain ⟨v, hb, hd⟩ := h
  obtain ⟨ao, cap, rfl⟩ := hd.slice
  obtain ⟨N, hN⟩ : ∃ N, L.length = N := ⟨_, rfl⟩
  rw [hN] at hb hlen
  have HD := hid hd
  rw [hN] at HD
  have HN := hid hN
  have HC := hid (show ∀ W, Kp w W [] → W.cell? ⟨rb, 0, none⟩ = some (.slice ao N cap) from fun W hk => hk.cell (cell_one hb) (by simp))
  have HL := hid (show ∀ k i, k ≤ 31 → (ordK L k ++ fk (31 - k) (L.take i)).length ≤ 100000 from fun k i hk => by
    have h1 : ∀ k : Nat, (ordK L k).length ≤ k * 16 := fun k => by
      induction k with
      | zero => simp [ordK]
      | succ k ih =>
        unfold ordK
        rw [List.length_append]
        have := List.length_filter_le (fun x : Dl => x.2 == 31 - (k : Int)) L
        unfold fk
        omega
    have h2 := h1 k
    have h3 := List.length_filter_le (fun x : Dl => x.2 == 31 - (k : Int)) (L.take i)
    rw [List.length_append]
    unfold fk
    rw [List.length_take] at h3
    omega)
  have HO := hid (ordL_eq L)
  clear hb hd hN hok
  go_enter Try.func64, Try.ntmps64
  go_wp2_with fail
  go_loopw [3, 4] (fun vd vp wr => ∃ (k m cp : Nat) (a1 : Option Addr), k ≤ 31 ∧ vp = .int .i64 (31 - (k : Int)) ∧ vd = .slice a1 m cp ∧ Hid (Dr wr w.heap.size (.slice a1 m cp) (ordK L k) ∧ Kp w wr [])) (fun _ vp _ => (intOf vp).toNat)
  case atStart => exact ⟨0, 0, 0, none, by omega, rfl, rfl, hid ⟨Dr.nil _ _, Kp.refl _ _⟩⟩
  case round =>
    obtain ⟨k, m1, cp1, a1, hk, rfl, rfl, hR⟩ := hrel
    by_cases hlt : k < 31
    · have hltI : (1 : Int) ≤ 31 - (k : Int) := by omega
      have hwr : IntKind.i64.wrap (31 - (k : Int) - 1) = 31 - ((k + 1 : Nat) : Int) := by rw [show 31 - (k : Int) - 1 = 31 - ((k + 1 : Nat) : Int) by omega]; exact IntWalk.i64_in _ ⟨by omega, by omega⟩
      obtain ⟨P, hP⟩ : ∃ P : Int, 31 - (k : Int) = P := ⟨_, rfl⟩
      rw [hP] at hltI hwr ⊢
      have HP := hid hP
      clear hP
      go_wp2_with fail
      go_loopw [3, 5] (fun vd vi wx => ∃ (i m cp : Nat) (a2 : Option Addr), i ≤ N ∧ vi = .int .i64 i ∧ vd = .slice a2 m cp ∧ Hid (Dr wx w.heap.size (.slice a2 m cp) (ordK L k ++ fk P (L.take i)) ∧ Kp w wx [])) (fun _ vi _ => N - (intOf vi).toNat)
      case atStart => exact ⟨0, m1, cp1, a1, by omega, rfl, rfl, hid ⟨by simpa [fk] using hR.out.1, hR.out.2⟩⟩
      case round =>
        obtain ⟨i, m2, cp2, a2, hi, rfl, rfl, hR2⟩ := hrel
        have cc := HC.out _ hR2.out.2
        by_cases hlt2 : i < N
        · have hltI2 : (i : Int) < N := by omega
          have hil : i < L.length := by have := HN.out; omega
          obtain ⟨x1, x2, hx⟩ : ∃ x1 x2, L[i]! = (x1, x2) := ⟨L[i]!.1, L[i]!.2, rfl⟩
          obtain ⟨g, rfl, c1, c2, -, -⟩ := (HD.out.keep hR2.out.2).at hil hx
          have HS := hid (fk_snoc P L hil)
          rw [hx] at HS
          by_cases he : x2 = P
          · have heI : (x2 == P) = true := by simp [he]
            have kk := Kp.alloc wr (.cells #[.int .i64 x1, .int .i64 x2] 103) []
            have R1 := hid (And.intro (hR2.out.1.keep kk) (hR2.out.2.trans kk))
            have HB := hid (show (ordK L k ++ fk P (L.take i)).length ≤ 1000000 by rw [← HP.out]; have := HL.out k i (by omega); omega)
            have HSS := hid (show fk P (L.take (i + 1)) = fk P (L.take i) ++ [(x1, x2)] by rw [HS.out, if_pos he])
            clear he hx kk hR2
            go_wp2_with (refine wpList_joinD rfl (.tmp 33) (.tmp 41) rfl w.heap.size wr.heap.size (.slice a2 m2 cp2) _ (ordK L k ++ fk P (L.take i)) [(x1, x2)] rfl R1.out.1 rfl (Dr.one wr x1 x2) HB.out (by simp) R1.out.2.size ?_; intro v3 w3 hN3 hG3; obtain ⟨a3, c3, hv3⟩ := hN3.slice; have K3 := hid (And.intro hN3 (grown_kp R1.out.1 hG3 R1.out.2 (Nat.le_refl _))); obtain ⟨m3, hm3⟩ : ∃ m3, (ordK L k ++ fk P (L.take i) ++ [(x1, x2)]).length = m3 := ⟨_, rfl⟩; rw [hm3] at hv3; subst hv3; clear hN3 hG3 hm3)
            go_roundw
            case rel =>
              refine ⟨i + 1, m3, c3, a3, by omega, by simp, rfl, hid ?_⟩
              rw [HSS.out, ← List.append_assoc]
              exact K3.out
            case measure => simp [intOf]; omega
          · have heI : (x2 == P) = false := by simp [he]
            have R2 := hid (show Dr wr w.heap.size (.slice a2 m2 cp2) (ordK L k ++ fk P (L.take (i + 1))) ∧ Kp w wr [] by
              rw [HS.out, if_neg he]; exact hR2.out)
            clear he hx hR2
            go_wp2
            go_roundw
            case rel => exact ⟨i + 1, m2, cp2, a2, by omega, by simp, rfl, R2⟩
            case measure => simp [intOf]; omega
        · have hltI2 : ¬ (i : Int) < N := by omega
          have R2 := hid (show Dr wr w.heap.size (.slice a2 m2 cp2) (ordK L (k + 1)) ∧ Kp w wr [] by
            have h1 := hR2.out
            rw [List.take_of_length_le (by have := HN.out; omega), ← HP.out] at h1
            exact h1)
          clear hR2
          go_wp2
          go_roundw
          case rel => exact ⟨k + 1, m2, cp2, a2, by omega, by simp, rfl, R2⟩
          case measure => simp [intOf]; have := HP.out; omega
    · have hk31 : k = 31 := by omega
      subst hk31
      have HF := hid hR.out
      clear hR
      go_wp2
      go_ret
      exact ⟨_, rfl, by rw [HO.out]; exact HF.out.1, HF.out.2⟩
end Go.Proofs.Ytllkopekfanfaaa
