/- does: a step, of both. -/
import Derived.Test.YtoaceeddcnijoaaRdue
import Derived.Deep.RegionHeldLaw
namespace Go.Proofs.Ytoaceeddcnijoaa
open Go.RowKit Go.Shelf Go.Lib Go.Sort

/-- What a step leaves of the list. -/
def stepL (k id at1 : Int) (L : List Dl) : List Dl := if k = 1 then setL id at1 L else if k = 2 then canL id L else if k = 3 then dueL at1 L else L
theorem Wl.apart {w : World} {wb rb : Nat} {F : Nat → Value} {L M : List Dl} (h : Wl w wb F L) (h' : Rf w rb M) : ∀ k ∈ rows F wb, k ≠ rb := by
  intro k hk e
  obtain ⟨c, t, hc, ht⟩ := h.kind hk
  obtain ⟨c', hc'⟩ := h'.kind
  subst e
  exact block_ne hc' hc (by rcases ht with rfl | rfl <;> decide) rfl
theorem Nr.mono {F' F : Nat → Value} {n m : Nat} (h : Nr F' F n) (hm : m ≤ n) : Nr F' F m := fun s g hs hg => by
  rcases h s g hs hg with q | q
  · exact .inl q
  · exact .inr (Nat.le_trans hm q)
/-- What a step leaves. -/
def Did (w w' : World) (wb rb : Nat) (F : Nat → Value) (L' : List Dl) : Prop :=
  ∃ F', Wl w' wb F' L' ∧ Rf w' rb L' ∧ Kp w w' (rb :: rows F wb) ∧ Nr F' F w.heap.size
theorem cell3 (w : World) (k p t : Value) : (w.alloc (.cells #[k, p, t] 32)).cell? ⟨w.heap.size, 0, none⟩ = some k ∧ (w.alloc (.cells #[k, p, t] 32)).cell? ⟨w.heap.size, 1, none⟩ = some p ∧ (w.alloc (.cells #[k, p, t] 32)).cell? ⟨w.heap.size, 2, none⟩ = some t := by
  have h := heap_alloc_new w (.cells #[k, p, t] 32)
  exact ⟨by rw [cell_of_row _ _ _ _ _ _ h]; rfl, by rw [cell_of_row _ _ _ _ _ _ h]; rfl, by rw [cell_of_row _ _ _ _ _ _ h]; rfl⟩

set_option maxRecDepth 100000 in
set_option maxHeartbeats 2000000 in
theorem does_any (w : World) (wb rb : Nat) (F : Nat → Value) (L : List Dl) (k id at1 : Int) (h : Wl w wb F L) (h' : Rf w rb L) : Calls Try.prog 9 #[.pointer (some ⟨wb, 0, none⟩), .pointer (some ⟨rb, 0, none⟩), .agg #[.int .i64 k, .int .i64 id, .int .i64 at1]] w fun e w' => e = .returned (.bool true) ∧ Did w w' wb rb F (stepL k id at1 L) := by
  obtain ⟨W0, hW0⟩ : ∃ W0, w.alloc (.cells #[.int .i64 k, .int .i64 id, .int .i64 at1] 32) = W0 := ⟨_, rfl⟩
  obtain ⟨c0, c1, c2⟩ := cell3 w (.int .i64 k) (.int .i64 id) (.int .i64 at1)
  have kk : Kp w W0 [] := by rw [← hW0]; exact Kp.alloc _ _ _
  have H := hid (h.same kk)
  have R := hid (h'.keep kk)
  have LWL := hid h.lw
  have K0 := hid kk
  have RL := hid (show ∀ k ∈ rb :: rows F wb, k < w.heap.size from fun k hk => by
    rcases List.mem_cons.1 hk with rfl | hk
    · exact h'.lt
    · exact h.rowslt hk)
  have AP := hid (h.apart h')
  rw [hW0] at c0 c1 c2
  have C0 := hid (And.intro c0 (And.intro c1 c2))
  have CC := hid (fun (w1 : World) (hk : Kp W0 w1 (rb :: rows F wb)) => (show w1.cell? ⟨w.heap.size, 0, none⟩ = some (.int .i64 k) ∧ w1.cell? ⟨w.heap.size, 1, none⟩ = some (.int .i64 id) ∧ w1.cell? ⟨w.heap.size, 2, none⟩ = some (.int .i64 at1) from by
    have hn : w.heap.size ∉ rb :: rows F wb := fun hm => by have := RL.out _ hm; omega
    exact ⟨hk.cell C0.out.1 hn, hk.cell C0.out.2.1 hn, hk.cell C0.out.2.2 hn⟩))
  have ka : ∀ (A B : World), Kp A B (rows F wb) → Kp A B (rb :: rows F wb) := fun _ _ h => h.mono (by intro x hx _; simp [hx])
  have kb : ∀ (A B : World), Kp A B [rb] → Kp A B (rb :: rows F wb) := fun _ _ h => h.mono (by intro x hx _; simp at hx; simp [hx])
  have KA := hid ka
  have KB := hid kb
  -- the reference behind the wheel's call, the wheel behind the reference's
  have RA := hid (show ∀ (A B : World), Wl A wb F L → Rf A rb L → Kp A B (rows F wb) → Rf B rb L from fun A B hW hR hk => hR.over hk fun k hm => hW.kind hm)
  have WA := hid (show ∀ (A B : World) (F1 : Nat → Value) (L1 M : List Dl), Wl A wb F1 L1 → Rf A rb M → Kp A B [rb] → Wl B wb F1 L1 from fun A B F1 L1 M hW hR hk => hW.keep hk fun k hm => by simpa using hW.apart hR k hm)
  clear h h' kk ka kb
  by_cases h1 : k = 1
  · have kt : (k == 1) = true := by simp [h1]
    rw [show stepL k id at1 L = setL id at1 L by unfold stepL; rw [if_pos h1]]
    clear h1 
    go_enter Try.func9, Try.ntmps9
    go_wp2_with fail
    go_region_held_law (fun w1 => w1.cell? ⟨w.heap.size, 0, none⟩ = some (.int .i64 k) ∧ w1.cell? ⟨w.heap.size, 1, none⟩ = some (.int .i64 id) ∧ w1.cell? ⟨w.heap.size, 2, none⟩ = some (.int .i64 at1))
      (first
        | exact CC.out _ (Kp.drew _ _)
        | exact CC.out _ ((Kp.drew _ _).trans (KA.out _ _ hK1))
        | exact CC.out _ (((Kp.drew _ _).trans (KA.out _ _ hK1)).trans (KB.out _ _ hK2)))
      (first
        | (go_at_call 21; have _hh := hK1; refine (rset_any _ rb L id at1 (RA.out _ _ (H.out.same (Kp.drew _ [])) (R.out.keep (Kp.drew _ [])) hK1) LWL.out).mono ?_; rintro e z2 ⟨rfl, hQ2, hK2⟩)
        | (go_at_call 11; refine (wset _ wb F L (H.out.same (Kp.drew _ [])) id at1).mono ?_; rintro e z1 ⟨rfl, F1, hW1, hK1, hN1⟩))
    have WZ := hid (WA.out _ _ F1 _ _ hW1 (RA.out _ _ (H.out.same (Kp.drew _ [])) (R.out.keep (Kp.drew _ [])) hK1) hK2)
    have QZ := hid hQ2
    have KZ := hid (((K0.out.nil (r := rb :: rows F wb)).trans (Kp.drew _ _)).trans ((KA.out _ _ hK1).trans (KB.out _ _ hK2)))
    have NZ := hid (hN1.mono (K0.out.trans (Kp.drew _ [])).size)
    clear hW1 hQ2 hK1 hK2 hN1
    obtain ⟨E, hE⟩ : ∃ E, setE id at1 = E := ⟨_, rfl⟩
    rw [hE]
    clear hE
    go_wp2
    go_ret
    exact ⟨by simp, F1, WZ.out, QZ.out, KZ.out, NZ.out⟩
  by_cases h2 : k = 2
  · have kt : (k == 2) = true := by simp [h2]
    rw [show stepL k id at1 L = canL id L by unfold stepL; rw [if_neg h1]; rw [if_pos h2]]
    have kf1 : (k == 1) = false := by simp [h1]
    clear h2 h1
    go_enter Try.func9, Try.ntmps9
    go_wp2_with fail
    go_region_held_law (fun w1 => w1.cell? ⟨w.heap.size, 0, none⟩ = some (.int .i64 k) ∧ w1.cell? ⟨w.heap.size, 1, none⟩ = some (.int .i64 id) ∧ w1.cell? ⟨w.heap.size, 2, none⟩ = some (.int .i64 at1))
      (first
        | exact CC.out _ (Kp.drew _ _)
        | exact CC.out _ ((Kp.drew _ _).trans (KA.out _ _ hK1))
        | exact CC.out _ (((Kp.drew _ _).trans (KA.out _ _ hK1)).trans (KB.out _ _ hK2)))
      (first
        | (go_at_call 22; have _hh := hK1; refine (rcan_any _ rb L id (RA.out _ _ (H.out.same (Kp.drew _ [])) (R.out.keep (Kp.drew _ [])) hK1) LWL.out).mono ?_; rintro e z2 ⟨rfl, hQ2, hK2⟩)
        | (go_at_call 12; refine (wcancel _ wb F L (H.out.same (Kp.drew _ [])) id).mono ?_; rintro e z1 ⟨rfl, F1, hW1, hK1, hN1⟩))
    have WZ := hid (WA.out _ _ F1 _ _ hW1 (RA.out _ _ (H.out.same (Kp.drew _ [])) (R.out.keep (Kp.drew _ [])) hK1) hK2)
    have QZ := hid hQ2
    have KZ := hid (((K0.out.nil (r := rb :: rows F wb)).trans (Kp.drew _ _)).trans ((KA.out _ _ hK1).trans (KB.out _ _ hK2)))
    have NZ := hid (hN1.mono (K0.out.trans (Kp.drew _ [])).size)
    clear hW1 hQ2 hK1 hK2 hN1
    obtain ⟨E, hE⟩ : ∃ E, canE id L = E := ⟨_, rfl⟩
    rw [hE]
    clear hE
    go_wp2
    go_ret
    exact ⟨by simp, F1, WZ.out, QZ.out, KZ.out, NZ.out⟩
  by_cases h3 : k = 3
  · have kt : (k == 3) = true := by simp [h3]
    rw [show stepL k id at1 L = dueL at1 L by unfold stepL; rw [if_neg h1, if_neg h2, if_pos h3]]
    have kf1 : (k == 1) = false := by simp [h1]
    have kf2 : (k == 2) = false := by simp [h2]
    clear h1 h2 h3
    go_enter Try.func9, Try.ntmps9
    go_wp2_with fail
    have NK := hid (show ∀ (A B : World) (base : Nat) (v : Value) (l : List Int), rb < base → Ns A base v l → Kp A B [rb] → Ns B base v l from fun A B base v l hb hn hk => owns_kp hn hk fun g hg => by have := (owns_block hn hg).1; simp; omega)
    have RB := hid (show rb < W0.drew.heap.size by have h1 := RL.out rb (by simp); have h2 := (K0.out.trans (Kp.drew _ [])).size; omega)
    have LEN := hid (show (dueO at1 L).length ≤ 100000 by
      unfold dueO
      rw [List.length_map]
      have h1 := List.length_filter_le (fun x : Dl => decide (x.2 ≤ at1)) L
      have h2 := LWL.out.len
      omega)
    go_region_held_law (fun w1 => w1.cell? ⟨w.heap.size, 0, none⟩ = some (.int .i64 k) ∧ w1.cell? ⟨w.heap.size, 1, none⟩ = some (.int .i64 id) ∧ w1.cell? ⟨w.heap.size, 2, none⟩ = some (.int .i64 at1))
      (first
        | exact CC.out _ (Kp.drew _ _)
        | exact CC.out _ ((Kp.drew _ _).trans (KA.out _ _ hK1))
        | exact CC.out _ (((Kp.drew _ _).trans (KA.out _ _ hK1)).trans (KB.out _ _ hK2))
        | exact CC.out _ ((((Kp.drew _ _).trans (KA.out _ _ hK1)).trans (KB.out _ _ hK2)).trans hK3.nil))
      (first
        | (go_at_call 20; have _hh := hK2; refine (ints_any _ _ _ _ _ _ _ (NK.out _ _ _ _ _ RB.out hn1 hK2) hn2 LEN.out).mono ?_; rintro e z3 ⟨rfl, hK3⟩)
        | (go_at_call 23; have _hh := hK1; refine (rdue_any _ rb L at1 (RA.out _ _ (H.out.same (Kp.drew _ [])) (R.out.keep (Kp.drew _ [])) hK1) LWL.out).mono ?_; rintro e z2 ⟨v2, rfl, hn2, hQ2, hK2⟩)
        | (go_at_call 13; refine (wdue _ wb F L (H.out.same (Kp.drew _ [])) at1).mono ?_; rintro e z1 ⟨v1, rfl, hn1, F1, hW1, hK1, hN1⟩))
    have WZ := hid ((WA.out _ _ F1 _ _ hW1 (RA.out _ _ (H.out.same (Kp.drew _ [])) (R.out.keep (Kp.drew _ [])) hK1) hK2).same hK3)
    have QZ := hid (hQ2.keep hK3)
    have KZ := hid ((((K0.out.nil (r := rb :: rows F wb)).trans (Kp.drew _ _)).trans ((KA.out _ _ hK1).trans (KB.out _ _ hK2))).trans hK3.nil)
    have NZ := hid (hN1.mono (K0.out.trans (Kp.drew _ [])).size)
    clear hW1 hQ2 hK1 hK2 hN1 hK3 hn1 hn2
    go_wp2
    go_ret
    exact ⟨by simp, F1, WZ.out, QZ.out, KZ.out, NZ.out⟩
  have kf1 : (k == 1) = false := by simp [h1]
  have kf2 : (k == 2) = false := by simp [h2]
  have kf3 : (k == 3) = false := by simp [h3]
  rw [show stepL k id at1 L = L by unfold stepL; rw [if_neg h1, if_neg h2, if_neg h3]]
  clear h1 h2 h3
  go_enter Try.func9, Try.ntmps9
  go_wp2
  go_ret
  exact ⟨by simp, F, H.out, R.out, K0.out.nil, Nr.refl _ _⟩
end Go.Proofs.Ytoaceeddcnijoaa
