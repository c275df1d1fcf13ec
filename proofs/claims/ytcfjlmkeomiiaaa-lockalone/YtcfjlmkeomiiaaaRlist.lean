/- The reference: List, First, Take, Clear, Same. -/
import Derived.Test.YtcfjlmkeomiiaaaRord
import Derived.BigQuiet
namespace Go.Proofs.Ytcfjlmkeomiiaaa
open Go.RowKit Go.Shelf Go.Lib Go.Sort Go.Maps

set_option maxRecDepth 100000 in
set_option maxHeartbeats 1000000 in
theorem rlist_any (w : World) (rb : Nat) (L : List Dl) (h : Rf w rb L) (hok : okL L) :
    Calls Try.prog 40 #[.pointer (some ⟨rb, 0, none⟩)] w fun e w' => ∃ v, e = .returned v ∧ Ns w' w.heap.size v ((ordL L).map (·.1)) ∧ Kp w w' [] := by
  have HO := hid (rorder_any w rb L h hok)
  have hlen : (ordL L).length ≤ 16 := by rw [ord_len hok]; exact hok.len
  generalize ordL L = Z at HO hlen ⊢
  clear h hok
  go_enter Try.func40, Try.ntmps40
  go_wp2_with fail
  refine HO.out.mono ?_
  rintro e w1 ⟨v, rfl, hd, hk⟩
  obtain ⟨ao, cap, hv⟩ := hd.slice
  obtain ⟨N, hN⟩ : ∃ N, Z.length = N := ⟨_, rfl⟩
  rw [hN] at hv hlen
  subst hv
  have HN := hid hN
  have H1 := hid (And.intro hd hk)
  clear hd hk hN
  go_wp2_with fail
  go_loopw [4, 5] (fun vd vi wr => ∃ (i m cp : Nat) (a1 : Option Addr), i ≤ N ∧ vi = .int .i64 i ∧ vd = .slice a1 m cp ∧ Hid (Ns wr w1.heap.size (.slice a1 m cp) ((Z.take i).map (·.1)) ∧ Kp w1 wr [])) (fun _ vi _ => N - (intOf vi).toNat)
  case atStart => exact ⟨0, 0, 0, none, by omega, rfl, rfl, hid ⟨by simpa using Ns.nil _ _, Kp.refl _ _⟩⟩
  case round =>
    obtain ⟨i, m1, cp1, a1, hi, rfl, rfl, hR⟩ := hrel
    by_cases hlt : i < N
    · have hltI : (i : Int) < N := by omega
      have hil : i < Z.length := by have := HN.out; omega
      obtain ⟨x1, x2, hx⟩ : ∃ x1 x2, Z[i]! = (x1, x2) := ⟨Z[i]!.1, Z[i]!.2, rfl⟩
      obtain ⟨g, rfl, c1, c2, -, -⟩ := (H1.out.1.keep hR.out.2).at hil hx
      have kk := Kp.alloc wr (.cells #[.int .i64 x1] 3) []
      have R1 := hid (And.intro (hR.out.1.keep kk) (hR.out.2.trans kk))
      have HT := hid (show (Z.take (i + 1)).map (·.1) = (Z.take i).map (·.1) ++ [x1] by rw [take_get hil, hx, List.map_append]; rfl)
      have HB := hid (show ((Z.take i).map (·.1)).length ≤ 100000 by simp; omega)
      clear kk hx hR
      go_wp2_with (refine wpList_pushI rfl (.tmp 14) (.tmp 20) rfl w1.heap.size (.slice a1 m1 cp1) ((Z.take i).map (·.1)) x1 _ rfl R1.out.1 rfl (by simp) HB.out R1.out.2.size ?_; intro v3 w3 hN3 hG3; obtain ⟨a3, c3, hv3⟩ := hN3.slice; have K3 := hid (And.intro hN3 (grown_own R1.out.1 hG3 R1.out.2 (Nat.le_refl _))); obtain ⟨m3, hm3⟩ : ∃ m3, ((Z.take i).map (·.1) ++ [x1]).length = m3 := ⟨_, rfl⟩; rw [hm3] at hv3; subst hv3; clear hN3 hG3 hm3)
      go_roundw
      case rel =>
        refine ⟨i + 1, m3, c3, a3, by omega, by simp, rfl, hid ?_⟩
        rw [HT.out]
        exact K3.out
      case measure => simp [intOf]; omega
    · have hltI : ¬ (i : Int) < N := by omega
      have HF := hid (show Ns wr w.heap.size (.slice a1 m1 cp1) (Z.map (·.1)) ∧ Kp w wr [] by
        have h1 := hR.out
        rw [List.take_of_length_le (by have := HN.out; omega)] at h1
        exact ⟨h1.1.low H1.out.2.size, H1.out.2.trans h1.2⟩)
      clear hR
      go_wp2
      go_ret
      exact ⟨_, rfl, HF.out.1, HF.out.2⟩
end Go.Proofs.Ytcfjlmkeomiiaaa
