/- ArenaSame: the walk. -/
import Derived.Test.YtihlejphjdelfaaStepsWalk
namespace Go.Proofs.Ytihlejphjdelfaa
open Go.RowKit
set_option linter.unusedVariables false
set_option linter.unusedSectionVars false

theorem Two.keep' {w w' : World} {rb mb rr mr n : Nat} {f : Nat → Int} {c : Int} (h : Two w rb mb rr mr n f c) {rows : List Nat} (hk : Kp w w' rows) (hr : ∀ j ∈ [rb, mb, rr, mr], j ∉ rows) : Two w' rb mb rr mr n f c :=
  ⟨h.1.keep hk (hr rb (by simp)) (hr mb (by simp)), h.2.1.keep hk (hr rr (by simp)) (hr mr (by simp)), h.2.2⟩
theorem Two.lt {w : World} {rb mb rr mr n : Nat} {f : Nat → Int} {c : Int} (h : Two w rb mb rr mr n f c) : ∀ j ∈ [rb, mb, rr, mr], j < w.heap.size := by
  have h1 := h.1.lt
  have h2 := h.2.1.lt
  intro j hj
  simp at hj
  omega
theorem refnew_no2 (w : World) (n : Int) (h : ¬ Good n) : Calls Try.prog 8 #[.int .i64 n] w fun e w' => e = .returned (.pointer none) ∧ Kp w w' [] :=
  (refnew_no w n h).mono fun e w' ⟨a, b⟩ => ⟨a, by rw [b]; exact Kp.refl _ _⟩
theorem new_no2 (w : World) (n : Int) (h : ¬ Good n) : Calls Try.prog 7 #[.int .i64 n] w fun e w' => e = .returned (.tuple #[.pointer none, .int .i64 2]) ∧ Kp w w' [] :=
  (new_no w n h).mono fun e w' ⟨a, b⟩ => ⟨a, by rw [b]; exact Kp.refl _ _⟩
theorem apart_symm {L M : List Nat} (h : ∀ j ∈ L, j ∉ M) : ∀ j ∈ M, j ∉ L := fun j hj hl => h j hl hj
/-- Behind a step the arena that goes on stays apart from others that were there. -/
theorem went_apart {w : World} {rb mb rr mr r2 m2 : Nat} {L : List Nat} (h : ∀ j ∈ [rb, mb, rr, mr], j ∉ L) (hL : ∀ j ∈ L, j < w.heap.size) (hs : (r2 = rb ∧ m2 = mb) ∨ (w.heap.size ≤ r2 ∧ w.heap.size ≤ m2)) : ∀ j ∈ [r2, m2, rr, mr], j ∉ L := by
  rcases hs with ⟨rfl, rfl⟩ | ⟨h1, h2⟩
  · exact h
  · intro j hj hl
    have hlt := hL j hl
    simp at hj
    rcases hj with rfl | rfl | rfl | rfl
    · omega
    · omega
    · exact h j (by simp) hl
    · exact h j (by simp) hl
set_option maxRecDepth 100000 in
set_option maxHeartbeats 4000000 in
theorem same_gg (w : World) (n0 : Nat) (n1 : Nat) (h0 : Good n0) (h1 : Good n1) (V U : Value) (N M : Nat) (S T : Nat → St) (hV : Sc w V N S) (hU : Sc w U M T) (hN : N ≤ 9223372036854775807) (hM : M ≤ 9223372036854775807) :
    Calls Try.prog 4 #[.agg #[.int .i64 (n0 : Nat), .int .i64 (n1 : Nat)], V, U] w fun e w' => e = .returned (.bool true) ∧ Kp w w' [] := by
  obtain ⟨ao, cap, rfl⟩ := hV.shape
  obtain ⟨au, capu, rfl⟩ := hU.shape
  have HV := hid hV
  have HU := hid hU
  have HN0 := hid (show n0 ≤ 65536 ∧ 0 < n0 by have := h0.2.1; have := h0.1; omega)
  have HN1 := hid (show n1 ≤ 65536 ∧ 0 < n1 by have := h1.2.1; have := h1.1; omega)
  clear hV hU
  go_enter Try.func4, Try.ntmps4
  go_wp2_with fail
  have hbx : (w.alloc (.cells #[.int .i64 (n0 : Nat), .int .i64 (n1 : Nat)] 40)).heap[w.heap.size]? = some (.cells #[.int .i64 (n0 : Nat), .int .i64 (n1 : Nat)] 40 (0, 0)) := heap_alloc_new w _
  refine (much_any _ _ N S (HV.out.keep (Kp.alloc w (.cells #[.int .i64 (n0 : Nat), .int .i64 (n1 : Nat)] 40) [])) hN).mono ?_
  rintro e w1 ⟨B, rfl, hK1⟩
  have HK1 := hid ((Kp.alloc w (.cells #[.int .i64 (n0 : Nat), .int .i64 (n1 : Nat)] 40) []).trans hK1)
  have HX1 := hid ((hK1.block w.heap.size (by simp) (by simp)).trans hbx)
  clear hK1 hbx
  cases B with
  | true =>
    go_wp2_with fail
    refine (known_any w1).mono ?_
    rintro e w2 ⟨rfl, hk⟩
    have HK := hid (HK1.out.trans hk)
    clear hk
    go_wp2
    go_ret
    exact ⟨rfl, HK.out⟩
  | false =>
  go_wp2_with fail
  refine (much_any w1 _ M T (HU.out.keep HK1.out) hM).mono ?_
  rintro e w2 ⟨B, rfl, hK2⟩
  have HK2 := hid (HK1.out.trans hK2)
  have HX2 := hid ((hK2.block w.heap.size (lt_of_block HX1.out) (by simp)).trans HX1.out)
  clear hK2 HX1 HK1
  cases B with
  | true =>
    go_wp2_with fail
    refine (known_any w2).mono ?_
    rintro e w3 ⟨rfl, hk⟩
    have HK := hid (HK2.out.trans hk)
    clear hk
    go_wp2
    go_ret
    exact ⟨rfl, HK.out⟩
  | false =>
  have c0 := cell_two0 HX2.out
  have c1 := cell_two1 HX2.out
  go_wp2_with fail
  refine (new_ok w2 n0 h0).mono ?_
  rintro e w3 ⟨rb, mb, rfl, hA3, hrb, hmb, hK3⟩
  have HA3 := hid hA3
  have HK3 := hid (HK2.out.trans hK3)
  have HX3 := hid ((hK3.block w.heap.size (lt_of_block HX2.out) (by simp)).trans HX2.out)
  have HZ3 := hid (show w.heap.size < rb ∧ w.heap.size < mb by have := lt_of_block HX2.out; omega)
  clear hA3 hrb hmb
  clear hK3 HX2 HK2 c0 c1
  have c0 := cell_two0 HX3.out
  have c1 := cell_two1 HX3.out
  go_wp2_with fail
  refine (new_ok w3 n1 h1).mono ?_
  rintro e w4 ⟨rb2, mb2, rfl, hA4, hrb2, hmb2, hK4⟩
  have HA4 := hid hA4
  have HB4 := hid (HA3.out.keep hK4 (by simp) (by simp))
  have HZ4 := hid (show w.heap.size < rb2 ∧ w.heap.size < mb2 by have := lt_of_block HX3.out; omega)
  have HZ5 := hid (show rb < rb2 ∧ mb < rb2 ∧ rb < mb2 ∧ mb < mb2 by have := HA3.out.lt; omega)
  clear hA4 hrb2 hmb2
  have HK4 := hid (HK3.out.trans hK4)
  have HX4 := hid ((hK4.block w.heap.size (lt_of_block HX3.out) (by simp)).trans HX3.out)
  clear hK4 HX3 HK3 c0 c1
  have hst := And.intro (cell_two0 HX4.out) (cell_two1 HX4.out)
  go_wp2_with fail
  go_region_held (fun w' => w'.cell? ⟨w.heap.size, 0, none⟩ = some (.int .i64 (n0 : Nat)) ∧ w'.cell? ⟨w.heap.size, 1, none⟩ = some (.int .i64 (n1 : Nat)))
    (first
      | exact keep2 hst (Kp.drew _ []) (by simp)
      | exact keep2 hst (((Kp.drew _ []).trans hk5).trans hk6) (by simp)
      | exact keep2 hst ((Kp.drew _ []).trans hk5) (by simp))
    (first
      | (go_at_call 8; have _hh := hk5; refine (refnew_ok _ n1 h1).mono ?_; rintro e w6 ⟨rr2, mr2, rfl, hR6, hrr2, hmr2, hk6⟩)
      | (go_at_call 8; refine (refnew_ok _ n0 h0).mono ?_; rintro e w5 ⟨rr, mr, rfl, hR5, hrr, hmr, hk5⟩))
  have kk5 : Kp w4 w5 [] := (Kp.drew _ _).trans hk5
  have kk6 : Kp w5 w6 [] := hk6
  have HK6 := hid ((HK4.out.trans kk5).trans kk6)
  have HR6a := hid (hR5.keep kk6 (by simp) (by simp))
  have HA6 := hid ((HB4.out.keep kk5 (by simp) (by simp)).keep kk6 (by simp) (by simp))
  have HW6 := hid (show w.heap.size < rb ∧ w.heap.size < mb ∧ w.heap.size < rr ∧ w.heap.size < mr by have := HZ3.out; have h1 : w4.heap.size ≤ rr := hrr; have h2 : w4.heap.size ≤ mr := hmr; have := lt_of_block HX4.out; omega)
  have HT6 := hid (show Two w6 rb mb rr mr n0 (fun _ => 0) 0 from ⟨HA6.out, HR6a.out, by have h2 : w4.heap.size ≤ mr := hmr; have := HB4.out.lt; omega⟩)
  have HA6b := hid ((HA4.out.keep kk5 (by simp) (by simp)).keep kk6 (by simp) (by simp))
  have HW6b := hid (show w.heap.size < rb2 ∧ w.heap.size < mb2 ∧ w.heap.size < rr2 ∧ w.heap.size < mr2 by have := HZ4.out; have := kk5.size; have := lt_of_block HX4.out; omega)
  have HT6b := hid (show Two w6 rb2 mb2 rr2 mr2 n1 (fun _ => 0) 0 from ⟨HA6b.out, hR6, by have := kk5.size; have := HA4.out.lt; omega⟩)
  have HP6 := hid (show ∀ j ∈ [rb, mb, rr, mr], j ∉ [rb2, mb2, rr2, mr2] by
    have h1 := HZ5.out
    have h2 := HA4.out.lt
    have h3 := hR5.lt
    have h4 := HB4.out.lt
    have h5 := kk5.size
    have h6 : w4.heap.size ≤ rr := hrr
    have h7 : w4.heap.size ≤ mr := hmr
    intro j hj hl
    simp at hj hl
    omega)
  clear hk5 hk6 kk5 kk6 hst HX4 HK4 hR5 hrr hmr HR6a HA6 HB4 HZ3 HA3 hR6 hrr2 hmr2 HA6b HA4 HZ4 HZ5
  go_wp2
  go_loopw [7, 11, 13, 14] (fun a r ok i wr => ∃ (rb' mb' k : Nat) (f' : Nat → Int) (c' : Int), k ≤ 60 ∧ k ≤ N ∧ a = .pointer (some ⟨rb', 0, none⟩) ∧ r = .pointer (some ⟨rr, 0, none⟩) ∧ ok = .bool true ∧ i = .int .i64 k ∧ Hid (Two wr rb' mb' rr mr n0 f' c' ∧ 0 ≤ c' ∧ c' ≤ k ∧ w.heap.size < rb' ∧ w.heap.size < mb') ∧ Hid (Kp w wr []) ∧ Hid (Two wr rb2 mb2 rr2 mr2 n1 (fun _ => 0) 0 ∧ ∀ j ∈ [rb', mb', rr, mr], j ∉ [rb2, mb2, rr2, mr2]))
    (fun _ _ _ i _ => 60 - (intOf i).toNat)
  case atStart => exact ⟨rb, mb, 0, _, 0, by omega, by omega, rfl, rfl, rfl, rfl, ⟨HT6.out, by omega, by omega, HW6.out.1, HW6.out.2.1⟩, HK6.out, ⟨HT6b.out, HP6.out⟩⟩
  case round =>
    obtain ⟨rb', mb', k, f', c', hk2, hkN, rfl, rfl, rfl, rfl, hT, hK, hO⟩ := hrel
    by_cases hlt : k < N ∧ k < 60
    · have q1 : (k : Int) < (N : Int) := by omega
      have q2 : (k : Int) < 60 := by omega
      obtain ⟨b, off, rfl, hcp, u0, u1, u2, u3, u4⟩ := (HV.out.keep hK.out).at hlt.1
      obtain ⟨s, hs⟩ : ∃ s, s = S k := ⟨_, rfl⟩
      rw [← hs] at u0 u1 u2 u3 u4
      have hfit : s.fit wr := by rw [hs]; obtain ⟨_, _, _, _, _, hf⟩ := HV.out.keep hK.out; exact hf k hlt.1
      have hfit0 : s.fit w := by rw [hs]; obtain ⟨_, _, _, _, _, hf⟩ := HV.out; exact hf k hlt.1
      have HF := hid hfit
      have HF0 := hid hfit0
      clear hs hfit hfit0
      go_wp2_with fail
      refine (do_any wr rb' mb' rr mr n0 f' c' hT.out.1 h0 hT.out.2.1 (by have := hT.out.2.2.1; omega) s HF.out (fun hne j e => by have := HF0.out.1.lt hne j e; have := HW6.out; have := hT.out.2.2.2; omega)).mono ?_
      rintro e w5 ⟨r2, m2, f2, c2, rfl, hT5, hc0, hc1, hsame, hK5⟩
      have HT5 := hid (show Two w5 r2 m2 rr mr n0 f2 c2 ∧ 0 ≤ c2 ∧ c2 ≤ ((k + 1 : Nat) : Int) ∧ w.heap.size < r2 ∧ w.heap.size < m2 by
        have h3 := hT.out.2.2.1
        have h4 := hT.out.2.2.2
        have h5 := hK.out.size
        have h6 := hT.out.1.lt rr (by simp)
        have h7 := HW6.out
        refine ⟨hT5, hc0, by omega, ?_, ?_⟩
        · rcases hsame with ⟨rfl, rfl⟩ | hh <;> omega
        · rcases hsame with ⟨rfl, rfl⟩ | hh <;> omega)
      have HK5 := hid (hK.out.newer hK5 (by have h4 := hT.out.2.2.2; have h6 := HW6.out; simp; omega))
      have HO5 := hid (And.intro (hO.out.1.keep' hK5 (apart_symm hO.out.2)) (went_apart hO.out.2 hO.out.1.lt hsame))
      clear hT5 hc0 hc1 hsame hK5 u0 u1 u2 u3 u4
      go_wp2
      go_roundw
      case rel => exact ⟨r2, m2, k + 1, f2, _, by omega, by omega, rfl, rfl, rfl, by go_num, HT5.out, HK5.out, HO5.out⟩
      case measure => simp [intOf]; omega
    · have hend : (N : Int) ≤ (k : Int) ∨ ((k : Int) < (N : Int) ∧ (60 : Int) ≤ (k : Int)) := by omega
      clear hlt
      rcases hend with q1 | ⟨q1, qq⟩
      all_goals
        go_wp2
        go_loopw [9, 12, 13, 15] (fun a r ok i wq => ∃ (rb3 mb3 j : Nat) (f3 : Nat → Int) (c3 : Int), j ≤ 60 ∧ j ≤ M ∧ a = .pointer (some ⟨rb3, 0, none⟩) ∧ r = .pointer (some ⟨rr2, 0, none⟩) ∧ ok = .bool true ∧ i = .int .i64 j ∧ Hid (Two wq rb3 mb3 rr2 mr2 n1 f3 c3 ∧ 0 ≤ c3 ∧ c3 ≤ j ∧ w.heap.size < rb3 ∧ w.heap.size < mb3) ∧ Hid (Kp w wq []) ∧ Hid (Two wq rb' mb' rr mr n0 f' c' ∧ ∀ j ∈ [rb3, mb3, rr2, mr2], j ∉ [rb', mb', rr, mr]))
          (fun _ _ _ i _ => 60 - (intOf i).toNat)
        case atStart => exact ⟨rb2, mb2, 0, _, 0, by omega, by omega, rfl, rfl, rfl, rfl, ⟨hO.out.1, by omega, by omega, HW6b.out.1, HW6b.out.2.1⟩, hK.out, ⟨hT.out.1, apart_symm hO.out.2⟩⟩
        case round =>
          clear q1
          obtain ⟨rb3, mb3, j, f3, c3, hj2, hjM, rfl, rfl, rfl, rfl, hT3, hK3, hO3⟩ := hrel
          by_cases hlt : j < M ∧ j < 60
          · have q1 : (j : Int) < (M : Int) := by omega
            have q2 : (j : Int) < 60 := by omega
            obtain ⟨b, off, rfl, hcp, u0, u1, u2, u3, u4⟩ := (HU.out.keep hK3.out).at hlt.1
            obtain ⟨s, hs⟩ : ∃ s, s = T j := ⟨_, rfl⟩
            rw [← hs] at u0 u1 u2 u3 u4
            have hfit : s.fit wr := by rw [hs]; obtain ⟨_, _, _, _, _, hf⟩ := HU.out.keep hK3.out; exact hf j hlt.1
            have hfit0 : s.fit w := by rw [hs]; obtain ⟨_, _, _, _, _, hf⟩ := HU.out; exact hf j hlt.1
            have HF := hid hfit
            have HF0 := hid hfit0
            clear hs hfit hfit0
            go_wp2_with fail
            refine (do_any wr rb3 mb3 rr2 mr2 n1 f3 c3 hT3.out.1 h1 hT3.out.2.1 (by have := hT3.out.2.2.1; omega) s HF.out (fun hne i e => by have := HF0.out.1.lt hne i e; have := HW6b.out; have := hT3.out.2.2.2; omega)).mono ?_
            rintro e w5 ⟨r4, m4, f4, c4, rfl, hT5, hc0, hc1, hsame, hK5⟩
            have HT5 := hid (show Two w5 r4 m4 rr2 mr2 n1 f4 c4 ∧ 0 ≤ c4 ∧ c4 ≤ ((j + 1 : Nat) : Int) ∧ w.heap.size < r4 ∧ w.heap.size < m4 by
              have h3 := hT3.out.2.2.1
              have h4 := hT3.out.2.2.2
              have h5 := hK3.out.size
              have h6 := hT3.out.1.lt rr2 (by simp)
              have h7 := HW6b.out
              refine ⟨hT5, hc0, by omega, ?_, ?_⟩
              · rcases hsame with ⟨rfl, rfl⟩ | hh <;> omega
              · rcases hsame with ⟨rfl, rfl⟩ | hh <;> omega)
            have HK5 := hid (hK3.out.newer hK5 (by have h4 := hT3.out.2.2.2; have h6 := HW6b.out; simp; omega))
            have HO5 := hid (And.intro (hO3.out.1.keep' hK5 (apart_symm hO3.out.2)) (went_apart hO3.out.2 hO3.out.1.lt hsame))
            clear hT5 hc0 hc1 hsame hK5 u0 u1 u2 u3 u4
            go_wp2
            go_roundw
            case rel => exact ⟨r4, m4, j + 1, f4, _, by omega, by omega, rfl, rfl, rfl, by go_num, HT5.out, HK5.out, HO5.out⟩
            case measure => simp [intOf]; omega
          · have hend : (M : Int) ≤ (j : Int) ∨ ((j : Int) < (M : Int) ∧ (60 : Int) ≤ (j : Int)) := by omega
            clear hlt
            rcases hend with q1 | ⟨q1, qq2⟩
            all_goals
              go_wp2_with fail
              refine (same_ok wr rb' mb' n0 f' c' rb3 mb3 n1 f3 c3 hO3.out.1.1 hT3.out.1.1).mono ?_
              rintro e w7 ⟨rfl, hw7⟩
              subst hw7
              go_wp2_with fail
              refine (rsame_ok w7 rr mr n0 f' c' rr2 mr2 n1 f3 c3 hO3.out.1.2.1 hT3.out.1.2.1).mono ?_
              rintro e w8 ⟨rfl, hk8⟩
              have HK8 := hid (hK3.out.trans hk8)
              have HA8 := hid (hO3.out.1.1.keep hk8 (by simp) (by simp))
              clear hk8
              obtain ⟨Z, hZ⟩ : ∃ Z, Z = ((strOfNums (part f' 0 n0)).toList == (strOfNums (part f3 0 n1)).toList) := ⟨_, rfl⟩
              rw [← hZ]
              clear hZ
              have hzz : (Z == Z) = true := by simp
              go_wp2_with fail
              refine (same_ok w8 rb' mb' n0 f' c' rb' mb' n0 f' c' HA8.out HA8.out).mono ?_
              rintro e w9 ⟨rfl, hw9⟩
              subst hw9
              rw [beq_self_eq_true]
              go_wp2_with fail
              refine (known_any w9).mono ?_
              rintro e wz ⟨rfl, hkz⟩
              have HKZ := hid (HK8.out.trans hkz)
              clear hkz
              go_wp2
              go_ret
              exact ⟨rfl, HKZ.out⟩

set_option maxRecDepth 100000 in
set_option maxHeartbeats 4000000 in
theorem same_gb (w : World) (n0 : Nat) (s1 : Int) (h0 : Good n0) (h1 : ¬ Good s1) (V U : Value) (N M : Nat) (S T : Nat → St) (hV : Sc w V N S) (hU : Sc w U M T) (hN : N ≤ 9223372036854775807) (hM : M ≤ 9223372036854775807) :
    Calls Try.prog 4 #[.agg #[.int .i64 (n0 : Nat), .int .i64 s1], V, U] w fun e w' => e = .returned (.bool true) ∧ Kp w w' [] := by
  obtain ⟨ao, cap, rfl⟩ := hV.shape
  obtain ⟨au, capu, rfl⟩ := hU.shape
  have HV := hid hV
  have HU := hid hU
  have HN0 := hid (show n0 ≤ 65536 ∧ 0 < n0 by have := h0.2.1; have := h0.1; omega)
  clear hV hU
  go_enter Try.func4, Try.ntmps4
  go_wp2_with fail
  have hbx : (w.alloc (.cells #[.int .i64 (n0 : Nat), .int .i64 s1] 40)).heap[w.heap.size]? = some (.cells #[.int .i64 (n0 : Nat), .int .i64 s1] 40 (0, 0)) := heap_alloc_new w _
  refine (much_any _ _ N S (HV.out.keep (Kp.alloc w (.cells #[.int .i64 (n0 : Nat), .int .i64 s1] 40) [])) hN).mono ?_
  rintro e w1 ⟨B, rfl, hK1⟩
  have HK1 := hid ((Kp.alloc w (.cells #[.int .i64 (n0 : Nat), .int .i64 s1] 40) []).trans hK1)
  have HX1 := hid ((hK1.block w.heap.size (by simp) (by simp)).trans hbx)
  clear hK1 hbx
  cases B with
  | true =>
    go_wp2_with fail
    refine (known_any w1).mono ?_
    rintro e w2 ⟨rfl, hk⟩
    have HK := hid (HK1.out.trans hk)
    clear hk
    go_wp2
    go_ret
    exact ⟨rfl, HK.out⟩
  | false =>
  go_wp2_with fail
  refine (much_any w1 _ M T (HU.out.keep HK1.out) hM).mono ?_
  rintro e w2 ⟨B, rfl, hK2⟩
  have HK2 := hid (HK1.out.trans hK2)
  have HX2 := hid ((hK2.block w.heap.size (lt_of_block HX1.out) (by simp)).trans HX1.out)
  clear hK2 HX1 HK1
  cases B with
  | true =>
    go_wp2_with fail
    refine (known_any w2).mono ?_
    rintro e w3 ⟨rfl, hk⟩
    have HK := hid (HK2.out.trans hk)
    clear hk
    go_wp2
    go_ret
    exact ⟨rfl, HK.out⟩
  | false =>
  have c0 := cell_two0 HX2.out
  have c1 := cell_two1 HX2.out
  go_wp2_with fail
  refine (new_ok w2 n0 h0).mono ?_
  rintro e w3 ⟨rb, mb, rfl, hA3, hrb, hmb, hK3⟩
  have HA3 := hid hA3
  have HK3 := hid (HK2.out.trans hK3)
  have HX3 := hid ((hK3.block w.heap.size (lt_of_block HX2.out) (by simp)).trans HX2.out)
  have HZ3 := hid (show w.heap.size < rb ∧ w.heap.size < mb by have := lt_of_block HX2.out; omega)
  clear hA3 hrb hmb
  clear hK3 HX2 HK2 c0 c1
  have c0 := cell_two0 HX3.out
  have c1 := cell_two1 HX3.out
  go_wp2_with fail
  refine (new_no2 w3 s1 h1).mono ?_
  rintro e w4 ⟨rfl, hK4⟩
  have HB4 := hid (HA3.out.keep hK4 (by simp) (by simp))
  have HK4 := hid (HK3.out.trans hK4)
  have HX4 := hid ((hK4.block w.heap.size (lt_of_block HX3.out) (by simp)).trans HX3.out)
  clear hK4 HX3 HK3 c0 c1
  have hst := And.intro (cell_two0 HX4.out) (cell_two1 HX4.out)
  go_wp2_with fail
  go_region_held (fun w' => w'.cell? ⟨w.heap.size, 0, none⟩ = some (.int .i64 (n0 : Nat)) ∧ w'.cell? ⟨w.heap.size, 1, none⟩ = some (.int .i64 s1))
    (first
      | exact keep2 hst (Kp.drew _ []) (by simp)
      | exact keep2 hst (((Kp.drew _ []).trans hk5).trans hk6) (by simp)
      | exact keep2 hst ((Kp.drew _ []).trans hk5) (by simp))
    (first
      | (go_at_call 8; have _hh := hk5; refine (refnew_no2 _ s1 h1).mono ?_; rintro e w6 ⟨rfl, hk6⟩)
      | (go_at_call 8; refine (refnew_ok _ n0 h0).mono ?_; rintro e w5 ⟨rr, mr, rfl, hR5, hrr, hmr, hk5⟩))
  have kk5 : Kp w4 w5 [] := (Kp.drew _ _).trans hk5
  have kk6 : Kp w5 w6 [] := hk6
  have HK6 := hid ((HK4.out.trans kk5).trans kk6)
  have HR6a := hid (hR5.keep kk6 (by simp) (by simp))
  have HA6 := hid ((HB4.out.keep kk5 (by simp) (by simp)).keep kk6 (by simp) (by simp))
  have HW6 := hid (show w.heap.size < rb ∧ w.heap.size < mb ∧ w.heap.size < rr ∧ w.heap.size < mr by have := HZ3.out; have h1 : w4.heap.size ≤ rr := hrr; have h2 : w4.heap.size ≤ mr := hmr; have := lt_of_block HX4.out; omega)
  have HT6 := hid (show Two w6 rb mb rr mr n0 (fun _ => 0) 0 from ⟨HA6.out, HR6a.out, by have h2 : w4.heap.size ≤ mr := hmr; have := HB4.out.lt; omega⟩)
  clear hk5 hk6 kk5 kk6 hst HX4 HK4 hR5 hrr hmr HR6a HA6 HB4 HZ3 HA3
  go_wp2
  go_loopw [7, 11, 13, 14] (fun a r ok i wr => ∃ (rb' mb' k : Nat) (f' : Nat → Int) (c' : Int), k ≤ 60 ∧ k ≤ N ∧ a = .pointer (some ⟨rb', 0, none⟩) ∧ r = .pointer (some ⟨rr, 0, none⟩) ∧ ok = .bool true ∧ i = .int .i64 k ∧ Hid (Two wr rb' mb' rr mr n0 f' c' ∧ 0 ≤ c' ∧ c' ≤ k ∧ w.heap.size < rb' ∧ w.heap.size < mb') ∧ Hid (Kp w wr []))
    (fun _ _ _ i _ => 60 - (intOf i).toNat)
  case atStart => exact ⟨rb, mb, 0, _, 0, by omega, by omega, rfl, rfl, rfl, rfl, ⟨HT6.out, by omega, by omega, HW6.out.1, HW6.out.2.1⟩, HK6.out⟩
  case round =>
    obtain ⟨rb', mb', k, f', c', hk2, hkN, rfl, rfl, rfl, rfl, hT, hK⟩ := hrel
    by_cases hlt : k < N ∧ k < 60
    · have q1 : (k : Int) < (N : Int) := by omega
      have q2 : (k : Int) < 60 := by omega
      obtain ⟨b, off, rfl, hcp, u0, u1, u2, u3, u4⟩ := (HV.out.keep hK.out).at hlt.1
      obtain ⟨s, hs⟩ : ∃ s, s = S k := ⟨_, rfl⟩
      rw [← hs] at u0 u1 u2 u3 u4
      have hfit : s.fit wr := by rw [hs]; obtain ⟨_, _, _, _, _, hf⟩ := HV.out.keep hK.out; exact hf k hlt.1
      have hfit0 : s.fit w := by rw [hs]; obtain ⟨_, _, _, _, _, hf⟩ := HV.out; exact hf k hlt.1
      have HF := hid hfit
      have HF0 := hid hfit0
      clear hs hfit hfit0
      go_wp2_with fail
      refine (do_any wr rb' mb' rr mr n0 f' c' hT.out.1 h0 hT.out.2.1 (by have := hT.out.2.2.1; omega) s HF.out (fun hne j e => by have := HF0.out.1.lt hne j e; have := HW6.out; have := hT.out.2.2.2; omega)).mono ?_
      rintro e w5 ⟨r2, m2, f2, c2, rfl, hT5, hc0, hc1, hsame, hK5⟩
      have HT5 := hid (show Two w5 r2 m2 rr mr n0 f2 c2 ∧ 0 ≤ c2 ∧ c2 ≤ ((k + 1 : Nat) : Int) ∧ w.heap.size < r2 ∧ w.heap.size < m2 by
        have h3 := hT.out.2.2.1
        have h4 := hT.out.2.2.2
        have h5 := hK.out.size
        have h6 := hT.out.1.lt rr (by simp)
        have h7 := HW6.out
        refine ⟨hT5, hc0, by omega, ?_, ?_⟩
        · rcases hsame with ⟨rfl, rfl⟩ | hh <;> omega
        · rcases hsame with ⟨rfl, rfl⟩ | hh <;> omega)
      have HK5 := hid (hK.out.newer hK5 (by have h4 := hT.out.2.2.2; have h6 := HW6.out; simp; omega))
      clear hT5 hc0 hc1 hsame hK5 u0 u1 u2 u3 u4
      go_wp2
      go_roundw
      case rel => exact ⟨r2, m2, k + 1, f2, _, by omega, by omega, rfl, rfl, rfl, by go_num, HT5.out, HK5.out⟩
      case measure => simp [intOf]; omega
    · have hend : (N : Int) ≤ (k : Int) ∨ ((k : Int) < (N : Int) ∧ (60 : Int) ≤ (k : Int)) := by omega
      clear hlt
      rcases hend with q1 | ⟨q1, qq⟩
      all_goals
        go_wp2
        refine wp_loop_rounds 1 ?_
        rw [rounds_succ]
        rcases (show (0 : Int) < (M : Int) ∨ (M : Int) ≤ 0 by omega) with qb | qb
        all_goals
          go_wp2_with fail
          refine (same_nil wr rb' mb' n0 f' c' hT.out.1.1).mono ?_
          rintro e w7 ⟨rfl, hw7⟩
          subst hw7
          rw [str_ne_empty (by rw [part_length]; have := HN0.out; omega)]
          go_wp2_with fail
          refine (rsame_nil w7 _ none (.inr rfl)).mono ?_
          rintro e w8 ⟨rfl, hw8⟩
          subst hw8
          go_wp2_with fail
          refine (same_ok w8 rb' mb' n0 f' c' rb' mb' n0 f' c' hT.out.1.1 hT.out.1.1).mono ?_
          rintro e w9 ⟨rfl, hw9⟩
          subst hw9
          rw [beq_self_eq_true]
          go_wp2_with fail
          refine (known_any w9).mono ?_
          rintro e wz ⟨rfl, hkz⟩
          have HKZ := hid (hK.out.trans hkz)
          clear hkz
          go_wp2
          go_ret
          exact ⟨rfl, HKZ.out⟩

set_option maxRecDepth 100000 in
set_option maxHeartbeats 4000000 in
theorem same_bg (w : World) (s0 : Int) (n1 : Nat) (h0 : ¬ Good s0) (h1 : Good n1) (V U : Value) (N M : Nat) (S T : Nat → St) (hV : Sc w V N S) (hU : Sc w U M T) (hN : N ≤ 9223372036854775807) (hM : M ≤ 9223372036854775807) :
    Calls Try.prog 4 #[.agg #[.int .i64 s0, .int .i64 (n1 : Nat)], V, U] w fun e w' => e = .returned (.bool true) ∧ Kp w w' [] := by
  obtain ⟨ao, cap, rfl⟩ := hV.shape
  obtain ⟨au, capu, rfl⟩ := hU.shape
  have HV := hid hV
  have HU := hid hU
  have HN1 := hid (show n1 ≤ 65536 ∧ 0 < n1 by have := h1.2.1; have := h1.1; omega)
  clear hV hU
  go_enter Try.func4, Try.ntmps4
  go_wp2_with fail
  have hbx : (w.alloc (.cells #[.int .i64 s0, .int .i64 (n1 : Nat)] 40)).heap[w.heap.size]? = some (.cells #[.int .i64 s0, .int .i64 (n1 : Nat)] 40 (0, 0)) := heap_alloc_new w _
  refine (much_any _ _ N S (HV.out.keep (Kp.alloc w (.cells #[.int .i64 s0, .int .i64 (n1 : Nat)] 40) [])) hN).mono ?_
  rintro e w1 ⟨B, rfl, hK1⟩
  have HK1 := hid ((Kp.alloc w (.cells #[.int .i64 s0, .int .i64 (n1 : Nat)] 40) []).trans hK1)
  have HX1 := hid ((hK1.block w.heap.size (by simp) (by simp)).trans hbx)
  clear hK1 hbx
  cases B with
  | true =>
    go_wp2_with fail
    refine (known_any w1).mono ?_
    rintro e w2 ⟨rfl, hk⟩
    have HK := hid (HK1.out.trans hk)
    clear hk
    go_wp2
    go_ret
    exact ⟨rfl, HK.out⟩
  | false =>
  go_wp2_with fail
  refine (much_any w1 _ M T (HU.out.keep HK1.out) hM).mono ?_
  rintro e w2 ⟨B, rfl, hK2⟩
  have HK2 := hid (HK1.out.trans hK2)
  have HX2 := hid ((hK2.block w.heap.size (lt_of_block HX1.out) (by simp)).trans HX1.out)
  clear hK2 HX1 HK1
  cases B with
  | true =>
    go_wp2_with fail
    refine (known_any w2).mono ?_
    rintro e w3 ⟨rfl, hk⟩
    have HK := hid (HK2.out.trans hk)
    clear hk
    go_wp2
    go_ret
    exact ⟨rfl, HK.out⟩
  | false =>
  have c0 := cell_two0 HX2.out
  have c1 := cell_two1 HX2.out
  go_wp2_with fail
  refine (new_no2 w2 s0 h0).mono ?_
  rintro e w3 ⟨rfl, hK3⟩
  have HK3 := hid (HK2.out.trans hK3)
  have HX3 := hid ((hK3.block w.heap.size (lt_of_block HX2.out) (by simp)).trans HX2.out)
  clear hK3 HX2 HK2 c0 c1
  have c0 := cell_two0 HX3.out
  have c1 := cell_two1 HX3.out
  go_wp2_with fail
  refine (new_ok w3 n1 h1).mono ?_
  rintro e w4 ⟨rb2, mb2, rfl, hA4, hrb2, hmb2, hK4⟩
  have HA4 := hid hA4
  have HZ4 := hid (show w.heap.size < rb2 ∧ w.heap.size < mb2 by have := lt_of_block HX3.out; omega)
  clear hA4 hrb2 hmb2
  have HK4 := hid (HK3.out.trans hK4)
  have HX4 := hid ((hK4.block w.heap.size (lt_of_block HX3.out) (by simp)).trans HX3.out)
  clear hK4 HX3 HK3 c0 c1
  have hst := And.intro (cell_two0 HX4.out) (cell_two1 HX4.out)
  go_wp2_with fail
  go_region_held (fun w' => w'.cell? ⟨w.heap.size, 0, none⟩ = some (.int .i64 s0) ∧ w'.cell? ⟨w.heap.size, 1, none⟩ = some (.int .i64 (n1 : Nat)))
    (first
      | exact keep2 hst (Kp.drew _ []) (by simp)
      | exact keep2 hst (((Kp.drew _ []).trans hk5).trans hk6) (by simp)
      | exact keep2 hst ((Kp.drew _ []).trans hk5) (by simp))
    (first
      | (go_at_call 8; have _hh := hk5; refine (refnew_ok _ n1 h1).mono ?_; rintro e w6 ⟨rr2, mr2, rfl, hR6, hrr2, hmr2, hk6⟩)
      | (go_at_call 8; refine (refnew_no2 _ s0 h0).mono ?_; rintro e w5 ⟨rfl, hk5⟩))
  have kk5 : Kp w4 w5 [] := (Kp.drew _ _).trans hk5
  have kk6 : Kp w5 w6 [] := hk6
  have HK6 := hid ((HK4.out.trans kk5).trans kk6)
  have HA6b := hid ((HA4.out.keep kk5 (by simp) (by simp)).keep kk6 (by simp) (by simp))
  have HW6b := hid (show w.heap.size < rb2 ∧ w.heap.size < mb2 ∧ w.heap.size < rr2 ∧ w.heap.size < mr2 by have := HZ4.out; have := kk5.size; have := lt_of_block HX4.out; omega)
  have HT6b := hid (show Two w6 rb2 mb2 rr2 mr2 n1 (fun _ => 0) 0 from ⟨HA6b.out, hR6, by have := kk5.size; have := HA4.out.lt; omega⟩)
  clear hk5 hk6 kk5 kk6 hst HX4 HK4 hR6 hrr2 hmr2 HA6b HA4 HZ4
  go_wp2
  refine wp_loop_rounds 1 ?_
  rw [rounds_succ]
  rcases (show (0 : Int) < (N : Int) ∨ (N : Int) ≤ 0 by omega) with qa | qa
  all_goals
    have q1 : True := trivial
    go_wp2
    go_loopw [9, 12, 13, 15] (fun a r ok i wq => ∃ (rb3 mb3 j : Nat) (f3 : Nat → Int) (c3 : Int), j ≤ 60 ∧ j ≤ M ∧ a = .pointer (some ⟨rb3, 0, none⟩) ∧ r = .pointer (some ⟨rr2, 0, none⟩) ∧ ok = .bool true ∧ i = .int .i64 j ∧ Hid (Two wq rb3 mb3 rr2 mr2 n1 f3 c3 ∧ 0 ≤ c3 ∧ c3 ≤ j ∧ w.heap.size < rb3 ∧ w.heap.size < mb3) ∧ Hid (Kp w wq []))
      (fun _ _ _ i _ => 60 - (intOf i).toNat)
    case atStart => exact ⟨rb2, mb2, 0, _, 0, by omega, by omega, rfl, rfl, rfl, rfl, ⟨HT6b.out, by omega, by omega, HW6b.out.1, HW6b.out.2.1⟩, HK6.out⟩
    case round =>
      clear q1
      obtain ⟨rb3, mb3, j, f3, c3, hj2, hjM, rfl, rfl, rfl, rfl, hT3, hK3⟩ := hrel
      by_cases hlt : j < M ∧ j < 60
      · have q1 : (j : Int) < (M : Int) := by omega
        have q2 : (j : Int) < 60 := by omega
        obtain ⟨b, off, rfl, hcp, u0, u1, u2, u3, u4⟩ := (HU.out.keep hK3.out).at hlt.1
        obtain ⟨s, hs⟩ : ∃ s, s = T j := ⟨_, rfl⟩
        rw [← hs] at u0 u1 u2 u3 u4
        have hfit : s.fit wr := by rw [hs]; obtain ⟨_, _, _, _, _, hf⟩ := HU.out.keep hK3.out; exact hf j hlt.1
        have hfit0 : s.fit w := by rw [hs]; obtain ⟨_, _, _, _, _, hf⟩ := HU.out; exact hf j hlt.1
        have HF := hid hfit
        have HF0 := hid hfit0
        clear hs hfit hfit0
        go_wp2_with fail
        refine (do_any wr rb3 mb3 rr2 mr2 n1 f3 c3 hT3.out.1 h1 hT3.out.2.1 (by have := hT3.out.2.2.1; omega) s HF.out (fun hne i e => by have := HF0.out.1.lt hne i e; have := HW6b.out; have := hT3.out.2.2.2; omega)).mono ?_
        rintro e w5 ⟨r4, m4, f4, c4, rfl, hT5, hc0, hc1, hsame, hK5⟩
        have HT5 := hid (show Two w5 r4 m4 rr2 mr2 n1 f4 c4 ∧ 0 ≤ c4 ∧ c4 ≤ ((j + 1 : Nat) : Int) ∧ w.heap.size < r4 ∧ w.heap.size < m4 by
          have h3 := hT3.out.2.2.1
          have h4 := hT3.out.2.2.2
          have h5 := hK3.out.size
          have h6 := hT3.out.1.lt rr2 (by simp)
          have h7 := HW6b.out
          refine ⟨hT5, hc0, by omega, ?_, ?_⟩
          · rcases hsame with ⟨rfl, rfl⟩ | hh <;> omega
          · rcases hsame with ⟨rfl, rfl⟩ | hh <;> omega)
        have HK5 := hid (hK3.out.newer hK5 (by have h4 := hT3.out.2.2.2; have h6 := HW6b.out; simp; omega))
        clear hT5 hc0 hc1 hsame hK5 u0 u1 u2 u3 u4
        go_wp2
        go_roundw
        case rel => exact ⟨r4, m4, j + 1, f4, _, by omega, by omega, rfl, rfl, rfl, by go_num, HT5.out, HK5.out⟩
        case measure => simp [intOf]; omega
      · have hend : (M : Int) ≤ (j : Int) ∨ ((j : Int) < (M : Int) ∧ (60 : Int) ≤ (j : Int)) := by omega
        clear hlt
        rcases hend with q1 | ⟨q1, qq2⟩
        all_goals
          go_wp2_with fail
          refine (same_nil' wr rb3 mb3 n1 f3 c3 hT3.out.1.1).mono ?_
          rintro e w7 ⟨rfl, hw7⟩
          subst hw7
          rw [str_ne_empty (by rw [part_length]; have := HN1.out; omega)]
          go_wp2_with fail
          refine (rsame_nil w7 none _ (.inl rfl)).mono ?_
          rintro e w8 ⟨rfl, hw8⟩
          subst hw8
          go_wp2_with fail
          refine (same_nils w8).mono ?_
          rintro e w9 ⟨rfl, hw9⟩
          subst hw9
          go_wp2_with fail
          refine (known_any w9).mono ?_
          rintro e wz ⟨rfl, hkz⟩
          have HKZ := hid (hK3.out.trans hkz)
          clear hkz
          go_wp2
          go_ret
          exact ⟨rfl, HKZ.out⟩

set_option maxRecDepth 100000 in
set_option maxHeartbeats 4000000 in
theorem same_bb (w : World) (s0 : Int) (s1 : Int) (h0 : ¬ Good s0) (h1 : ¬ Good s1) (V U : Value) (N M : Nat) (S T : Nat → St) (hV : Sc w V N S) (hU : Sc w U M T) (hN : N ≤ 9223372036854775807) (hM : M ≤ 9223372036854775807) :
    Calls Try.prog 4 #[.agg #[.int .i64 s0, .int .i64 s1], V, U] w fun e w' => e = .returned (.bool true) ∧ Kp w w' [] := by
  obtain ⟨ao, cap, rfl⟩ := hV.shape
  obtain ⟨au, capu, rfl⟩ := hU.shape
  have HV := hid hV
  have HU := hid hU
  clear hV hU
  go_enter Try.func4, Try.ntmps4
  go_wp2_with fail
  have hbx : (w.alloc (.cells #[.int .i64 s0, .int .i64 s1] 40)).heap[w.heap.size]? = some (.cells #[.int .i64 s0, .int .i64 s1] 40 (0, 0)) := heap_alloc_new w _
  refine (much_any _ _ N S (HV.out.keep (Kp.alloc w (.cells #[.int .i64 s0, .int .i64 s1] 40) [])) hN).mono ?_
  rintro e w1 ⟨B, rfl, hK1⟩
  have HK1 := hid ((Kp.alloc w (.cells #[.int .i64 s0, .int .i64 s1] 40) []).trans hK1)
  have HX1 := hid ((hK1.block w.heap.size (by simp) (by simp)).trans hbx)
  clear hK1 hbx
  cases B with
  | true =>
    go_wp2_with fail
    refine (known_any w1).mono ?_
    rintro e w2 ⟨rfl, hk⟩
    have HK := hid (HK1.out.trans hk)
    clear hk
    go_wp2
    go_ret
    exact ⟨rfl, HK.out⟩
  | false =>
  go_wp2_with fail
  refine (much_any w1 _ M T (HU.out.keep HK1.out) hM).mono ?_
  rintro e w2 ⟨B, rfl, hK2⟩
  have HK2 := hid (HK1.out.trans hK2)
  have HX2 := hid ((hK2.block w.heap.size (lt_of_block HX1.out) (by simp)).trans HX1.out)
  clear hK2 HX1 HK1
  cases B with
  | true =>
    go_wp2_with fail
    refine (known_any w2).mono ?_
    rintro e w3 ⟨rfl, hk⟩
    have HK := hid (HK2.out.trans hk)
    clear hk
    go_wp2
    go_ret
    exact ⟨rfl, HK.out⟩
  | false =>
  have c0 := cell_two0 HX2.out
  have c1 := cell_two1 HX2.out
  go_wp2_with fail
  refine (new_no2 w2 s0 h0).mono ?_
  rintro e w3 ⟨rfl, hK3⟩
  have HK3 := hid (HK2.out.trans hK3)
  have HX3 := hid ((hK3.block w.heap.size (lt_of_block HX2.out) (by simp)).trans HX2.out)
  clear hK3 HX2 HK2 c0 c1
  have c0 := cell_two0 HX3.out
  have c1 := cell_two1 HX3.out
  go_wp2_with fail
  refine (new_no2 w3 s1 h1).mono ?_
  rintro e w4 ⟨rfl, hK4⟩
  have HK4 := hid (HK3.out.trans hK4)
  have HX4 := hid ((hK4.block w.heap.size (lt_of_block HX3.out) (by simp)).trans HX3.out)
  clear hK4 HX3 HK3 c0 c1
  have hst := And.intro (cell_two0 HX4.out) (cell_two1 HX4.out)
  go_wp2_with fail
  go_region_held (fun w' => w'.cell? ⟨w.heap.size, 0, none⟩ = some (.int .i64 s0) ∧ w'.cell? ⟨w.heap.size, 1, none⟩ = some (.int .i64 s1))
    (first
      | exact keep2 hst (Kp.drew _ []) (by simp)
      | exact keep2 hst (((Kp.drew _ []).trans hk5).trans hk6) (by simp)
      | exact keep2 hst ((Kp.drew _ []).trans hk5) (by simp))
    (first
      | (go_at_call 8; have _hh := hk5; refine (refnew_no2 _ s1 h1).mono ?_; rintro e w6 ⟨rfl, hk6⟩)
      | (go_at_call 8; refine (refnew_no2 _ s0 h0).mono ?_; rintro e w5 ⟨rfl, hk5⟩))
  have kk5 : Kp w4 w5 [] := (Kp.drew _ _).trans hk5
  have kk6 : Kp w5 w6 [] := hk6
  have HK6 := hid ((HK4.out.trans kk5).trans kk6)
  clear hk5 hk6 kk5 kk6 hst HX4 HK4
  go_wp2
  refine wp_loop_rounds 1 ?_
  rw [rounds_succ]
  rcases (show (0 : Int) < (N : Int) ∨ (N : Int) ≤ 0 by omega) with qa | qa
  all_goals
    have q1 : True := trivial
    go_wp2
    refine wp_loop_rounds 1 ?_
    rw [rounds_succ]
    rcases (show (0 : Int) < (M : Int) ∨ (M : Int) ≤ 0 by omega) with qb | qb
    all_goals
      go_wp2_with fail
      refine (same_nils w6).mono ?_
      rintro e w7 ⟨rfl, hw7⟩
      subst hw7
      go_wp2_with fail
      refine (rsame_nil w7 none none (.inl rfl)).mono ?_
      rintro e w8 ⟨rfl, hw8⟩
      subst hw8
      go_wp2_with fail
      refine (same_nils w8).mono ?_
      rintro e w9 ⟨rfl, hw9⟩
      subst hw9
      go_wp2_with fail
      refine (known_any w9).mono ?_
      rintro e wz ⟨rfl, hkz⟩
      have HKZ := hid (HK6.out.trans hkz)
      clear hkz
      go_wp2
      go_ret
      exact ⟨rfl, HKZ.out⟩

end Go.Proofs.Ytihlejphjdelfaa
