/- Pieces, Copy. -/
import Derived.Test.YtojcmnanapeooaaDue
import Derived.Test.YtojcmnanapeooaaClone
namespace Go.Proofs.Ytojcmnanapeooaa
open Go.RowKit Go.Shelf

set_option maxRecDepth 100000 in
theorem pieces_any (w : World) (sb : Nat) (v : Value) (s : Sv) (h : Sr w sb v s) : Calls Try.prog 20 #[.pointer (some ⟨sb, 0, none⟩)] w fun e w' => ∃ v', e = .returned v' ∧ Dr w' w.heap.size v' s.pcs ∧ Kp w w' [] := by
  have cz := zero_no w sb _ _ _ _ _ _ _ h.c h.ok.m1
  have cc := hid (clone_any w v s.pcs h.row (by have := h.ok.plen; omega))
  have c6 := h.c.c.2.2.2.2.2.2
  obtain ⟨ao, cap, rfl⟩ := h.row.slice
  obtain ⟨P, hP⟩ : ∃ P, s.pcs = P := ⟨_, rfl⟩
  rw [hP] at cc c6 ⊢
  obtain ⟨N, hN⟩ : ∃ N, P.length = N := ⟨_, rfl⟩
  rw [hN] at c6 cc
  clear h hP
  go_enter Try.func20, Try.ntmps20
  go_wp2_with (first | (go_at_call 30; refine cz.mono ?_; rintro e w' ⟨rfl, rfl⟩) | (go_at_call 35; refine cc.out.mono ?_; rintro e w' ⟨v', rfl, h1, h2⟩; have H1 := hid h1; have H2 := hid h2; obtain ⟨a1, c1, hv1⟩ := h1.slice; rw [hN] at hv1; subst hv1; clear h1 h2))
  go_ret
  exact ⟨_, rfl, H1.out, H2.out⟩
set_option maxRecDepth 100000 in
set_option maxHeartbeats 1000000 in
theorem copy_any (w : World) (sb : Nat) (v : Value) (s : Sv) (h : Sr w sb v s) : Calls Try.prog 22 #[.pointer (some ⟨sb, 0, none⟩)] w fun e w' => e = .returned (.pointer (some ⟨w.heap.size, 0, none⟩)) ∧ (∃ v', Sr w' w.heap.size v' s ∧ ∀ g, v'.ownBlock = some g → w.heap.size ≤ g) ∧ Kp w w' [] := by
  have cz := zero_no w sb _ _ _ _ _ _ _ h.c h.ok.m1
  have H := hid h
  have hlt := h.c.lt
  have hne : sb ≠ w.heap.size := by omega
  obtain ⟨ao, cap, rfl⟩ := h.row.slice
  obtain ⟨bu, p, m, l, a, si, u, P⟩ := s
  obtain ⟨c0, c1, c2, c3, c4, c5, c6⟩ := h.c.c
  simp only at c0 c1 c2 c3 c4 c5 c6 H ⊢
  obtain ⟨N, hN⟩ : ∃ N, P.length = N := ⟨_, rfl⟩
  rw [hN] at c6 H
  have HN := hid hN
  clear h hN
  go_enter Try.func22, Try.ntmps22
  go_wp2_with (first | (go_at_call 30; refine cz.mono ?_; rintro e w' ⟨rfl, rfl⟩))
  have k1 := Kp.alloc w' (.cells #[.int .i64 p, .int .i64 m, .int .i64 l, .bool a, .int .i64 si, .int .i64 u, .slice ao N cap] 58) []
  have hs1 : Sc (w'.alloc (.cells #[.int .i64 p, .int .i64 m, .int .i64 l, .bool a, .int .i64 si, .int .i64 u, .slice ao N cap] 58)) w'.heap.size p m l a si u (.slice ao N cap) := heap_alloc_new w' _
  refine (clone_any _ _ P (H.out.row.keep k1) (by have := H.out.ok.plen; simp only at this; omega)).mono ?_
  rintro e w2 ⟨v2, rfl, h1, h2⟩
  have hs2 := hs1.keep h2 (by simp)
  have q6 := hs2.c.2.2.2.2.2.2
  have r6 := hs2.free 6
  have HF := hid (show Sr (w2.setCell ⟨w'.heap.size, 6, none⟩ v2) w'.heap.size v2 ⟨bu, p, m, l, a, si, u, P⟩ ∧ (∀ g, v2.ownBlock = some g → w'.heap.size ≤ g) ∧ Kp w' (w2.setCell ⟨w'.heap.size, 6, none⟩ v2) [] by
    refine ⟨⟨hs2.set6 _, ?_, H.out.ok⟩, fun g hg => ?_, (k1.trans h2).past (Kp.setCell w2 ⟨w'.heap.size, 6, none⟩ v2) (by intro k hk hl; simp at hk; omega)⟩
    · exact (h1.low (Nat.zero_le _)).kp (Kp.setCell w2 ⟨w'.heap.size, 6, none⟩ v2) fun g hg e => h1.apart hs2 (by decide) (by simp only [List.mem_singleton] at e; rw [← e]; exact hg)
    · have := (owns_block h1 hg).1
      simp at this
      omega)
  obtain ⟨a2, c2', hv2⟩ := h1.slice
  obtain ⟨N2, hN2⟩ : ∃ N2, P.length = N2 := ⟨_, rfl⟩
  rw [hN2] at hv2
  subst hv2
  clear k1 hs1 hs2 h1 h2 hN2
  go_wp2_with fail
  go_ret
  exact ⟨rfl, ⟨_, HF.out.1, HF.out.2.1⟩, HF.out.2.2⟩
end Go.Proofs.Ytojcmnanapeooaa
