/- ServerNil's walk. -/
import Derived.Test.YtojcmnanapeooaaZero
import Derived.Test.YtojcmnanapeooaaKnown
namespace Go.Proofs.Ytojcmnanapeooaa
open Go.RowKit Go.Shelf

set_option maxRecDepth 100000 in
set_option maxHeartbeats 4000000 in
theorem nil_walk (w : World) : Calls Try.prog 8 #[] w fun e w' => e = .returned (.bool true) ∧ Kp w w' [] := by
  go_enter Try.func8, Try.ntmps8
  go_wp2_with fail
  have Z0 : Zs (w.alloc (.cells #[.int .i64 0, .int .i64 0, .int .i64 0, .bool false, .int .i64 0, .int .i64 0, .slice none 0 0] 58)) (some ⟨w.heap.size, 0, none⟩) :=
    .inr ⟨w.heap.size, rfl, heap_alloc_new w _⟩
  have K0 := Kp.alloc w (.cells #[.int .i64 0, .int .i64 0, .int .i64 0, .bool false, .int .i64 0, .int .i64 0, .slice none 0 0] 58) []
  have hsz : (w.alloc (.cells #[.int .i64 0, .int .i64 0, .int .i64 0, .bool false, .int .i64 0, .int .i64 0, .slice none 0 0] 58)).heap.size = w.heap.size + 1 := by simp
  generalize w.alloc (.cells #[.int .i64 0, .int .i64 0, .int .i64 0, .bool false, .int .i64 0, .int .i64 0, .slice none 0 0] 58) = W1 at Z0 K0 hsz ⊢
  have hlb := heap_alloc_new W1 (.cells #[.pointer none, .pointer (some ⟨w.heap.size, 0, none⟩)] 23)
  rw [hsz] at hlb
  have l0 : (W1.alloc (.cells #[.pointer none, .pointer (some ⟨w.heap.size, 0, none⟩)] 23)).cell? ⟨w.heap.size + 1, 0, none⟩ = some (.pointer none) := by rw [cell_of_row _ _ _ _ _ _ hlb]; rfl
  have l1 : (W1.alloc (.cells #[.pointer none, .pointer (some ⟨w.heap.size, 0, none⟩)] 23)).cell? ⟨w.heap.size + 1, 1, none⟩ = some (.pointer (some ⟨w.heap.size, 0, none⟩)) := by rw [cell_of_row _ _ _ _ _ _ hlb]; rfl
  have K1 := K0.trans (Kp.alloc W1 (.cells #[.pointer none, .pointer (some ⟨w.heap.size, 0, none⟩)] 23) [])
  have Z1 := Z0.keep (Kp.alloc W1 (.cells #[.pointer none, .pointer (some ⟨w.heap.size, 0, none⟩)] 23) [])
  generalize W1.alloc (.cells #[.pointer none, .pointer (some ⟨w.heap.size, 0, none⟩)] 23) = W0 at l0 l1 K1 Z1 ⊢
  have L0' := hid l0
  have L1' := hid l1
  have HK := hid K1
  have HZ := hid Z1
  clear hlb hsz K0 Z0 l0 l1 K1 Z1
  generalize w.heap.size = z at L0' L1' HZ ⊢
  clear W1
  go_loopw [2] (fun v wr => ∃ i : Nat, i ≤ 2 ∧ v = .int .i64 i ∧ Hid (Kp W0 wr [])) (fun v _ => 2 - (intOf v).toNat)
  case atStart => exact ⟨0, by omega, rfl, Kp.refl _ _⟩
  case round =>
    obtain ⟨i, hi, rfl, hK⟩ := hrel
    by_cases hlt : i < 2
    · have hltI : (i : Int) < 2 := by omega
      obtain ⟨p, cp, hz⟩ : ∃ p, wr.cell? ⟨z + 1, i, none⟩ = some (.pointer p) ∧ Zs wr p := by
        rcases (show i = 0 ∨ i = 1 by omega) with rfl | rfl
        · exact ⟨none, hK.out.cell L0'.out (by simp), .inl rfl⟩
        · exact ⟨_, hK.out.cell L1'.out (by simp), HZ.out.keep hK.out⟩
      have Z := hid hz
      clear hz
      go_wp2_with fail
      refine (zuse _ p Z.out).mono ?_
      rintro e x ⟨rfl, hx⟩
      subst hx
      go_wp2_with fail
      refine (zactive _ p Z.out).mono ?_
      rintro e x ⟨rfl, hx⟩
      subst hx
      go_wp2_with fail
      refine (zstart _ p (-1) Z.out).mono ?_
      rintro e x ⟨rfl, hx⟩
      subst hx
      go_wp2_with fail
      refine (zstop _ p (-1) Z.out).mono ?_
      rintro e x ⟨rfl, hx⟩
      subst hx
      go_wp2_with fail
      refine (zdue _ p 9 Z.out).mono ?_
      rintro e x0 ⟨rfl, hk⟩
      have Z := hid (Z.out.keep hk)
      have hK := hid (hK.out.trans hk)
      clear hk
      go_wp2_with fail
      refine (zhigh _ p Z.out).mono ?_
      rintro e x1 ⟨rfl, n1, hx⟩
      have hk : Kp x0 x1 [] := by rw [hx]; exact Kp.drewN _ _ _
      have Z := hid (Z.out.keep hk)
      have hK := hid (hK.out.trans hk)
      clear hk hx
      go_wp2_with fail
      refine (zleft _ p Z.out).mono ?_
      rintro e x ⟨rfl, hx⟩
      subst hx
      go_wp2_with fail
      refine (zpieces _ p Z.out).mono ?_
      rintro e x ⟨rfl, hx⟩
      subst hx
      go_wp2_with fail
      refine (zcopy _ p Z.out).mono ?_
      rintro e x ⟨rfl, hx⟩
      subst hx
      go_wp2
      go_roundw
      case rel => exact ⟨i + 1, by omega, by simp, hK⟩
      case measure => simp [intOf]; omega
    · have hltI : ¬ (i : Int) < 2 := by omega
      have HK2 := hid (HK.out.trans hK.out)
      go_wp2_with fail
      refine (kn_new wr 1 1 1 (by decide)).mono ?_
      rintro e v1 ⟨rfl, h1⟩
      have H1 := hid h1
      clear h1
      go_wp2_with fail
      refine (kn_new v1 1 2 1 (by decide)).mono ?_
      rintro e v2 ⟨rfl, h2⟩
      have K2 := hid h2.kp
      have H1 := hid (H1.out.same h2.kp)
      have H2 := hid h2
      have cp := (hK.out.trans H1.out.kp).cell L1'.out (by simp)
      have HZ2 := hid (HZ.out.keep (hK.out.trans H1.out.kp))
      clear h2
      go_wp2_with fail
      refine (zsame _ none _ (.inl rfl) HZ2.out).mono ?_
      rintro e x ⟨rfl, hx⟩
      subst hx
      obtain ⟨u1, T1, -⟩ := H1.out.ex
      obtain ⟨u2, T2, -⟩ := H2.out.ex
      have HT1 := hid T1
      have HT2 := hid T2
      clear T1 T2
      go_wp2_with fail
      refine (zsame_no _ none _ u1 _ (.inl rfl) HT1.out).mono ?_
      rintro e x ⟨rfl, hx⟩
      subst hx
      go_wp2_with fail
      refine (same_any _ _ _ u1 u2 _ _ HT1.out HT2.out).mono ?_
      rintro e x1 ⟨rfl, n1, hx⟩
      rw [show sameB (newS 1 1 1) (newS 1 2 1) = false from by decide]
      have K5 := hid (show Kp w x1 [] by rw [hx]; exact (HK2.out.trans H1.out.kp).trans (Kp.drewN _ _ _))
      clear hx
      go_wp2_with fail
      refine (known_any _).mono ?_
      rintro e x2 ⟨rfl, hk⟩
      have K6 := hid (K5.out.trans hk)
      clear hk
      go_wp2
      go_ret
      exact ⟨rfl, K6.out⟩
end Go.Proofs.Ytojcmnanapeooaa
