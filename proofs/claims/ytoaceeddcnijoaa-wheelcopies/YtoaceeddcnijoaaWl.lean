/- The wheel's calls, by its list in order. -/
import Derived.Test.YtoaceeddcnijoaaPlain
import Derived.Test.YtoaceeddcnijoaaZsame
namespace Go.Proofs.Ytoaceeddcnijoaa
open Go.RowKit Go.Shelf Go.Lib Go.Sort

/-- A wheel at block wb holds L; its rings' slices are F. -/
def Wl (w : World) (wb : Nat) (F : Nat → Value) (L : List Dl) : Prop := ∃ D, Wh w wb F D ∧ Rg D L
section
variable {w w' : World} {wb : Nat} {F : Nat → Value} {L : List Dl}
theorem Wl.lw (h : Wl w wb F L) : Lw L := by obtain ⟨D, -, h⟩ := h; exact h.lw
theorem Wl.lt (h : Wl w wb F L) : wb < w.heap.size := by obtain ⟨D, h, -⟩ := h; exact h.lt
theorem Wl.rowslt (h : Wl w wb F L) {k : Nat} (hk : k ∈ rows F wb) : k < w.heap.size := by obtain ⟨D, h, -⟩ := h; exact h.rowslt hk
theorem Wl.keep (h : Wl w wb F L) {rws : List Nat} (hk : Kp w w' rws) (hr : ∀ k ∈ rows F wb, k ∉ rws) : Wl w' wb F L := by
  obtain ⟨D, h, h2⟩ := h
  exact ⟨D, h.keep hk hr, h2⟩
theorem Wl.same (h : Wl w wb F L) (hk : Kp w w' []) : Wl w' wb F L := h.keep hk (by simp)
/-- Its blocks are of two kinds. -/
theorem Wl.kind (h : Wl w wb F L) {k : Nat} (hk : k ∈ rows F wb) : ∃ c t, w.heap[k]? = some (.cells c t (0, 0)) ∧ (t = 50 ∨ t = 69) := by
  obtain ⟨D, h, -⟩ := h
  rcases mem_rows.1 hk with rfl | ⟨s, hs, hg⟩
  · exact ⟨_, _, h.blk, .inl rfl⟩
  · obtain ⟨-, cur, hc⟩ := owns_block (h.row s hs) hg
    exact ⟨_, _, hc, .inr rfl⟩
end
theorem Nr.refl (F : Nat → Value) (n : Nat) : Nr F F n := fun _ _ _ h => .inl h
theorem Nr.of_eq {F' F : Nat → Value} (h : ∀ s, s < 64 → (F' s).ownBlock = (F s).ownBlock) (n : Nat) : Nr F' F n := fun s g hs hg => .inl (by rw [← h s hs]; exact hg)
theorem Nr.rows {F' F : Nat → Value} {n wb k : Nat} (h : Nr F' F n) (hk : k ∈ rows F' wb) : k ∈ rows F wb ∨ n ≤ k := by
  rcases mem_rows.1 hk with rfl | ⟨s, hs, hg⟩
  · exact .inl (mem_rows.2 (.inl rfl))
  · rcases h s k hs hg with q | q
    · exact .inl (mem_rows.2 (.inr ⟨s, hs, q⟩))
    · exact .inr q

section
variable (w : World) (wb : Nat) (F : Nat → Value) (L : List Dl) (h : Wl w wb F L)
include h
set_option maxRecDepth 100000 in
theorem set_no (id at1 : Int) (hb : (mayI id && mayT at1) = false) : Calls Try.prog 11 #[.pointer (some ⟨wb, 0, none⟩), .int .i64 id, .int .i64 at1] w fun e w' => e = .returned (.int .i64 2) ∧ w' = w := by
  obtain ⟨D, h, -⟩ := h
  have H := hid h
  clear h
  cases hi : mayI id with
  | false =>
    have HI := hid hi
    clear hb hi
    go_enter Try.func11, Try.ntmps11
    go_wp2_with fail
    refine (zero_no w wb F D H.out).mono ?_
    rintro e w1 ⟨rfl, rfl⟩
    go_wp2_with fail
    refine (id_any _ id).mono ?_
    rintro e w2 ⟨rfl, rfl⟩
    rw [HI.out]
    go_wp2
    go_ret
    exact ⟨rfl, rfl⟩
  | true =>
    rw [hi, Bool.true_and] at hb
    have HI := hid hi
    have HB := hid hb
    clear hb hi
    go_enter Try.func11, Try.ntmps11
    go_wp2_with fail
    refine (zero_no w wb F D H.out).mono ?_
    rintro e w1 ⟨rfl, rfl⟩
    go_wp2_with fail
    refine (id_any _ id).mono ?_
    rintro e w2 ⟨rfl, rfl⟩
    rw [HI.out]
    go_wp2_with fail
    refine (time_any _ at1).mono ?_
    rintro e w2 ⟨rfl, rfl⟩
    rw [HB.out]
    go_wp2
    go_ret
    exact ⟨rfl, rfl⟩
set_option maxRecDepth 100000 in
theorem cancel_no (id : Int) (hi : mayI id = false) : Calls Try.prog 12 #[.pointer (some ⟨wb, 0, none⟩), .int .i64 id] w fun e w' => e = .returned (.int .i64 2) ∧ w' = w := by
  obtain ⟨D, h, -⟩ := h
  have H := hid h
  have HI := hid hi
  clear h hi
  go_enter Try.func12, Try.ntmps12
  go_wp2_with fail
  refine (zero_no w wb F D H.out).mono ?_
  rintro e w1 ⟨rfl, rfl⟩
  go_wp2_with fail
  refine (id_any _ id).mono ?_
  rintro e w2 ⟨rfl, rfl⟩
  rw [HI.out]
  go_wp2
  go_ret
  exact ⟨rfl, rfl⟩
theorem wset (id at1 : Int) : Calls Try.prog 11 #[.pointer (some ⟨wb, 0, none⟩), .int .i64 id, .int .i64 at1] w fun e w' => e = .returned (.int .i64 (setE id at1)) ∧ ∃ F', Wl w' wb F' (setL id at1 L) ∧ Kp w w' (rows F wb) ∧ Nr F' F w.heap.size := by
  unfold setE setL
  by_cases hb : (mayI id && mayT at1) = true
  · rw [if_pos hb, if_pos hb]
    obtain ⟨D, h, hR⟩ := h
    have hok := okD_of hb
    simp only [Bool.and_eq_true] at hb
    refine (set_any w wb F D id at1 (at1 % 64).toNat h hR.len hb.1 hb.2 (by omega)).mono ?_
    rintro e w' ⟨rfl, F', hW, hk, hn⟩
    exact ⟨rfl, F', ⟨_, hW, hR.set hok (by omega)⟩, hk, hn⟩
  · rw [if_neg hb, if_neg hb]
    refine (set_no w wb F L h id at1 (by simpa using hb)).mono ?_
    rintro e w' ⟨rfl, rfl⟩
    exact ⟨rfl, F, h, Kp.refl _ _, Nr.refl _ _⟩
theorem wcancel (id : Int) : Calls Try.prog 12 #[.pointer (some ⟨wb, 0, none⟩), .int .i64 id] w fun e w' => e = .returned (.int .i64 (canE id L)) ∧ ∃ F', Wl w' wb F' (canL id L) ∧ Kp w w' (rows F wb) ∧ Nr F' F w.heap.size := by
  unfold canE canL
  by_cases hb : mayI id = true
  · rw [if_pos hb, if_pos hb]
    obtain ⟨D, h, hR⟩ := h
    refine (cancel_any w wb F D id h hR.len hb).mono ?_
    rintro e w' ⟨rfl, F', hW, hn, hk⟩
    rw [any_perm hR.st]
    exact ⟨rfl, F', ⟨_, hW, hR.rest _⟩, hk, Nr.of_eq hn _⟩
  · rw [if_neg hb, if_neg hb]
    refine (cancel_no w wb F L h id (by simpa using hb)).mono ?_
    rintro e w' ⟨rfl, rfl⟩
    exact ⟨rfl, F, h, Kp.refl _ _, Nr.refl _ _⟩
theorem wdue (now : Int) : Calls Try.prog 13 #[.pointer (some ⟨wb, 0, none⟩), .int .i64 now] w fun e w' => ∃ v, e = .returned v ∧ Ns w' w.heap.size v (dueO now L) ∧ ∃ F', Wl w' wb F' (dueL now L) ∧ Kp w w' (rows F wb) ∧ Nr F' F w.heap.size := by
  obtain ⟨D, h, hR⟩ := h
  refine (due_any w wb F D now h hR.len).mono ?_
  rintro e w' ⟨⟨v, rfl, Z, hZ, hN⟩, ⟨F', hW, hn⟩, hk⟩
  obtain rfl := hZ.unique (hR.st.filter _)
  exact ⟨v, rfl, hN, F', ⟨_, hW, hR.rest _⟩, hk, Nr.of_eq hn _⟩
theorem wlen : Calls Try.prog 18 #[.pointer (some ⟨wb, 0, none⟩)] w fun e w' => e = .returned (.int .i64 L.length) ∧ Kp w w' [] := by
  obtain ⟨D, h, hR⟩ := h
  have := len_any w wb F D h hR.len
  rw [← hR.st.length] at this
  exact this
theorem wall (W : World) (hk : Kp w W []) : Calls Try.prog 19 #[.pointer (some ⟨wb, 0, none⟩)] W fun e w' => (∃ x, e = .returned (itv x) ∧ It w' W.heap.size x L) ∧ Kp W w' [] := by
  obtain ⟨D, h, hR⟩ := h
  refine (all_any W wb F D (h.same hk) hR.len).mono ?_
  rintro e w' ⟨⟨x, rfl, Z, hZ, hI⟩, hk⟩
  obtain rfl := hZ.unique hR.st
  exact ⟨⟨x, rfl, hI⟩, hk⟩
theorem wfirst : Calls Try.prog 17 #[.pointer (some ⟨wb, 0, none⟩)] w fun e w' => e = .returned (.tuple #[.int .i64 (L.headD (0, 0)).1, .int .i64 (L.headD (0, 0)).2, .bool (!L.isEmpty)]) ∧ Kp w w' [] :=
  first_any w _ L (by have := h.lw.len; omega) (wall w wb F L h)
theorem wat (id : Int) : Calls Try.prog 16 #[.pointer (some ⟨wb, 0, none⟩), .int .i64 id] w fun e w' => e = .returned (.tuple #[.int .i64 (atV id L), .bool (hasV id L)]) ∧ Kp w w' [] :=
  at_any w _ id L (by have := h.lw.len; omega) (wall w wb F L h)
theorem wcopy : Calls Try.prog 14 #[.pointer (some ⟨wb, 0, none⟩)] w fun e w' => e = .returned (.pointer (some ⟨w.heap.size, 0, none⟩)) ∧ ∃ F', Wl w' w.heap.size F' L ∧ (∀ k ∈ rows F' w.heap.size, w.heap.size ≤ k) ∧ Kp w w' [] := by
  obtain ⟨D, h, hR⟩ := h
  refine (copy_any w wb F D h hR.len).mono ?_
  rintro e w' ⟨rfl, ⟨F', hW, hn⟩, hk⟩
  refine ⟨rfl, F', ⟨D, hW, hR⟩, fun k hk => ?_, hk⟩
  rcases mem_rows.1 hk with rfl | ⟨s, hs, hg⟩
  · exact Nat.le_refl _
  · exact hn s k hs hg
end
theorem wsame (w : World) (wa wb : Nat) (F G : Nat → Value) (L M : List Dl) (h1 : Wl w wa F L) (h2 : Wl w wb G M) : Calls Try.prog 15 #[.pointer (some ⟨wa, 0, none⟩), .pointer (some ⟨wb, 0, none⟩)] w fun e w' => e = .returned (.bool (decide (L = M))) ∧ Kp w w' [] := by
  obtain ⟨D, h1, r1⟩ := h1
  obtain ⟨E, h2, r2⟩ := h2
  refine (same_any w wa wb F G D E h1 h2 r1.len r2.len).mono ?_
  rintro e w' ⟨⟨b, rfl, Z1, Z2, z1, z2, rfl⟩, hk⟩
  obtain rfl := z1.unique r1.st
  obtain rfl := z2.unique r2.st
  exact ⟨rfl, hk⟩
theorem wnew (w : World) : Calls Try.prog 8 #[] w fun e w' => e = .returned (.pointer (some ⟨w.heap.size, 0, none⟩)) ∧ Wl w' w.heap.size (fun _ => .slice none 0 0) [] ∧ Kp w w' [] := by
  refine (new_any w).mono ?_
  rintro e w' ⟨rfl, hW, hk⟩
  exact ⟨rfl, ⟨_, hW, rg_nil⟩, hk⟩
theorem rows_new (wb : Nat) : rows (fun _ => .slice none 0 0) wb = [wb] := by
  unfold rows
  rw [List.filterMap_eq_nil_iff.2 (by intro a _; rfl)]
end Go.Proofs.Ytoaceeddcnijoaa
