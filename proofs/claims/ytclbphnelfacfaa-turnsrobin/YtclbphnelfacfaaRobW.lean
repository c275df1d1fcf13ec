/- TurnsRobin's walk. -/
import Derived.Test.YtclbphnelfacfaaRob
namespace Go.Proofs.Ytclbphnelfacfaa
open Go.RowKit Go.Shelf

theorem Kn.nod {w W : World} {xb rb q m : Nat} {S : Sh} {L : Ls} (h : Kn w W xb rb q S L m) (p : Nat) : (L p).Nodup := by
  obtain ⟨s, -, hT⟩ := h.tn
  obtain ⟨c, u, -, hP⟩ := hT.rd
  exact hP.nod p
set_option maxRecDepth 100000 in
set_option maxHeartbeats 4000000 in
theorem robin_no (w : World) (q T P k : Int) (h : ¬ ((1 ≤ q ∧ q ≤ 100) ∧ (1 ≤ T ∧ T ≤ 16) ∧ (1 ≤ P ∧ P ≤ 31) ∧ (0 ≤ k ∧ k ≤ 2000))) :
    Calls Try.prog 4 #[.int .i64 q, .int .i64 T, .int .i64 P, .int .i64 k] w fun e w' => e = .returned (.bool true) ∧ Kp w w' [] := by
  have ck := known_any w
  have hc : q < 1 ∨ (¬ q < 1 ∧ 100 < q) ∨ (¬ q < 1 ∧ ¬ 100 < q ∧ T < 1) ∨ (¬ q < 1 ∧ ¬ 100 < q ∧ ¬ T < 1 ∧ 16 < T) ∨ (¬ q < 1 ∧ ¬ 100 < q ∧ ¬ T < 1 ∧ ¬ 16 < T ∧ P < 1) ∨ (¬ q < 1 ∧ ¬ 100 < q ∧ ¬ T < 1 ∧ ¬ 16 < T ∧ ¬ P < 1 ∧ 31 < P) ∨ (¬ q < 1 ∧ ¬ 100 < q ∧ ¬ T < 1 ∧ ¬ 16 < T ∧ ¬ P < 1 ∧ ¬ 31 < P ∧ k < 0) ∨ (¬ q < 1 ∧ ¬ 100 < q ∧ ¬ T < 1 ∧ ¬ 16 < T ∧ ¬ P < 1 ∧ ¬ 31 < P ∧ ¬ k < 0 ∧ 2000 < k) := by omega
  clear h
  rcases hc with a1 | ⟨a1, a2⟩ | ⟨a1, a2, a3⟩ | ⟨a1, a2, a3, a4⟩ | ⟨a1, a2, a3, a4, a5⟩ | ⟨a1, a2, a3, a4, a5, a6⟩ | ⟨a1, a2, a3, a4, a5, a6, a7⟩ | ⟨a1, a2, a3, a4, a5, a6, a7, a8⟩
  all_goals
    go_enter Try.func4, Try.ntmps4
    go_wp2_with fail
    refine ck.mono ?_
    rintro e w1 ⟨rfl, hk⟩
    have HK := hid hk
    clear hk ck
    go_wp2
    go_ret
    exact ⟨rfl, HK.out⟩
set_option maxRecDepth 100000 in
set_option maxHeartbeats 4000000 in
theorem robin_ok (w : World) (q T P k : Nat) (q1 : 1 ≤ q) (q2 : q ≤ 100) (t1 : 1 ≤ T) (t2 : T ≤ 16) (p1 : 1 ≤ P) (p2 : P ≤ 31) (k2 : k ≤ 2000) :
    Calls Try.prog 4 #[.int .i64 q, .int .i64 T, .int .i64 P, .int .i64 k] w fun e w' => e = .returned (.bool true) ∧ Kp w w' [] := by
  have a1 : ¬ (q : Int) < 1 := by omega
  have a2 : ¬ (100 : Int) < q := by omega
  have a3 : ¬ (T : Int) < 1 := by omega
  have a4 : ¬ (16 : Int) < T := by omega
  have a5 : ¬ (P : Int) < 1 := by omega
  have a6 : ¬ (31 : Int) < P := by omega
  have a7 : ¬ (k : Int) < 0 := by omega
  have a8 : ¬ (2000 : Int) < k := by omega
  go_enter Try.func4, Try.ntmps4
  go_wp2_with fail
  refine (kn_new w w (Kp.refl _ _) q q1 q2).mono ?_
  rintro e w1 ⟨xb, rb, rfl, hl⟩
  have H : Hid (Kn w w1 xb rb q (robA q 0) (on P (List.range 0)) 0) := by
    rw [robA_zero, List.range_zero, on_nil]
    exact hl
  clear hl
  go_wp2_with fail
  go_loopw [11] (fun v wr => ∃ i : Nat, i ≤ T ∧ v = .int .i64 i ∧ Hid (Kn w wr xb rb q (robA q i) (on P (List.range i)) (i * 12))) (fun v _ => T - (intOf v).toNat)
  case atStart => exact ⟨0, by omega, rfl, H⟩
  case round =>
    obtain ⟨i, hi, rfl, hT⟩ := hrel
    clear H
    by_cases hlt : i < T
    · have hltI : (i : Int) < T := by omega
      have HA := hid (add_on (P := P) (t := i) (l := List.range i) p1 p2 (by omega) (by simp))
      go_wp2_with fail
      refine (hT.out.run (fun s hs h => h.add (by omega) i P true)).mono ?_
      rintro e w2 ⟨rfl, hl⟩
      rw [HA.out.1]
      have H2 : Hid (Kn w w2 xb rb q (robA q (i + 1)) (on P (List.range (i + 1))) ((i + 1) * 12)) := by
        have e1 : addS q (robA q i) (on P (List.range i)) i P true = robA q (i + 1) := by
          unfold addS
          rw [if_pos HA.out.1, Int.toNat_natCast, robA_step]
        rw [e1, HA.out.2] at hl
        rw [List.range_succ]
        exact hl.more (by omega)
      clear hl HA
      go_wp2
      go_roundw
      case rel => exact ⟨i + 1, by omega, by simp, H2⟩
      case measure => simp [intOf]; omega
    · have hltI : ¬ (i : Int) < T := by omega
      have H2 : Hid (Kn w wr xb rb q (robS T q 0 0) (on P (rot T 0)) 200) := by
        have e : i = T := by omega
        have h := hT.out
        rw [e] at h
        rw [robS_zero, rot_zero]
        exact h.more (by omega)
      clear hT
      go_wp2_with fail
      go_loopw [12] (fun v wr => ∃ n : Nat, n ≤ k ∧ v = .int .i64 n ∧ Hid (Kn w wr xb rb q (robS T q (n / q) (n % q)) (on P (rot T (n / q))) (200 + n * 25))) (fun v _ => k - (intOf v).toNat)
      case atStart => exact ⟨0, by omega, rfl, by simpa using H2⟩
      case round =>
        obtain ⟨n, hn, rfl, hT⟩ := hrel
        clear H2
        by_cases hnk : n < k
        · have hnI : (n : Int) < k := by omega
          have HST := hid (show (if n % q = q - 1 then n / q + 1 else n / q) = (n + 1) / q ∧ (if n % q = q - 1 then 0 else n % q + 1) = (n + 1) % q from by
            have h1 := Nat.div_add_mod n q
            have h2 := Nat.mod_lt n (show q > 0 by omega)
            by_cases e : n % q = q - 1
            · rw [if_pos e, if_pos e]
              have h3 : n + 1 = (n / q + 1) * q := by rw [Nat.add_mul, Nat.one_mul, Nat.mul_comm]; omega
              rw [h3]
              exact ⟨(Nat.mul_div_cancel _ (by omega)).symm, (Nat.mul_mod_left _ _).symm⟩
            · rw [if_neg e, if_neg e]
              have h3 : n + 1 = q * (n / q) + (n % q + 1) := by omega
              have h4 : n % q + 1 < q := by omega
              generalize n / q = a at *
              generalize n % q = b at *
              rw [h3]
              exact ⟨by rw [Nat.mul_add_div (by omega), Nat.div_eq_of_lt h4, Nat.add_zero], by rw [Nat.mul_add_mod, Nat.mod_eq_of_lt h4]⟩)
          have hN := hT.out.nod P
          rw [on_at] at hN
          obtain ⟨r, hr⟩ : ∃ r, n / q = r := ⟨_, rfl⟩
          obtain ⟨i, hi⟩ : ∃ i, n % q = i := ⟨_, rfl⟩
          obtain ⟨h, hh⟩ : ∃ h, r % T = h := ⟨_, rfl⟩
          have hlt : i < q := by rw [← hi]; exact Nat.mod_lt n (by omega)
          have HR := rob_tick (q := q) (r := r) p1 p2 t1 t2 hlt (by rw [← hr]; exact hN)
          rw [hh] at HR
          have HR := hid HR
          have hqz : (q : Int) ≠ 0 := by omega
          have hTz : (T : Int) ≠ 0 := by omega
          have d1 : (n : Int).tdiv q = r := by rw [← hr]; exact (Int.ofNat_tdiv n q).symm
          have d2 : (n : Int) / q = r := by rw [← hr]; exact (Int.natCast_ediv n q).symm
          have m1 : (n : Int).tmod q = i := by rw [← hi]; exact (Int.ofNat_tmod n q).symm
          have m2 : (n : Int) % q = i := by rw [← hi]; exact (Int.natCast_emod n q).symm
          have x1 : (r : Int).tmod T = h := by rw [← hh]; exact (Int.ofNat_tmod r T).symm
          have x2 : (r : Int) % T = h := by rw [← hh]; exact (Int.natCast_emod r T).symm
          have HT := hT
          rw [hr, hi] at HT HST
          have hn2 : n ≤ 2000 := by omega
          have hr2 : r ≤ 2000 := by rw [← hr]; exact Nat.le_trans (Nat.div_le_self _ _) hn2
          have hi2 : i ≤ 2000 := by omega
          have hh2 : h ≤ 16 := by rw [← hh]; have := Nat.mod_lt r (show T > 0 by omega); omega
          clear hT hN hr hi hh
          go_wp2_with fail
          refine (HT.out.run (fun s hs hh => hh.lruns (by omega) h)).mono ?_
          rintro e w2 ⟨rfl, hl⟩
          rw [show runB (on P (rot T r)) (h : Int) = true by unfold runB; rw [HR.out.1, HR.out.2.1]; simp]
          have H3 := hid hl
          clear hl
          by_cases hlast : i = q - 1
          · have hB := HR.out.2.2.1
            rw [show decide (i = q - 1) = true by simp [hlast]] at hB
            have hV : tkV (on P (rot T r)) (robS T q r i) = h := by unfold tkV; rw [hB, if_pos rfl]; exact HR.out.1
            have hL := HR.out.2.2.2.1
            have hS := HR.out.2.2.2.2
            rw [HST.out.1] at hL hS
            rw [HST.out.2] at hS
            have hli : (i : Int) = (q : Int) - 1 := by omega
            have hlb : ((i : Int) == (q : Int) - 1) = true := by simp [hli]
            have HH := hid (And.intro hB (And.intro hV (And.intro hL hS)))
            clear hB hV hL hS HR HST
            clear hlast
            go_wp2_with fail
            refine (H3.out.run (fun s hs hh => hh.tick (by omega))).mono ?_
            rintro e w3 ⟨rfl, hl⟩
            rw [HH.out.1, HH.out.2.1]
            rw [HH.out.2.2.1, HH.out.2.2.2] at hl
            have H4 := hid hl
            clear hl HH H3
            go_wp2_with fail
            refine ⟨⟨n + 1, by omega, by simp, H4.out.more (by omega)⟩, ?_⟩
            simp [intOf]
            omega
          · have hB := HR.out.2.2.1
            rw [show decide (i = q - 1) = false by simp [hlast]] at hB
            have hV : tkV (on P (rot T r)) (robS T q r i) = 0 := by unfold tkV; rw [hB]; rfl
            have hL := HR.out.2.2.2.1
            have hS := HR.out.2.2.2.2
            rw [HST.out.1] at hL hS
            rw [HST.out.2] at hS
            have hli : ¬ (i : Int) = (q : Int) - 1 := by omega
            have hlb : ((i : Int) == (q : Int) - 1) = false := by simp [hli]
            have HH := hid (And.intro hB (And.intro hV (And.intro hL hS)))
            clear hB hV hL hS HR HST
            clear hlast
            go_wp2_with fail
            refine (H3.out.run (fun s hs hh => hh.tick (by omega))).mono ?_
            rintro e w3 ⟨rfl, hl⟩
            rw [HH.out.1, HH.out.2.1]
            rw [HH.out.2.2.1, HH.out.2.2.2] at hl
            have H4 := hid hl
            clear hl HH H3
            go_wp2_with fail
            refine ⟨⟨n + 1, by omega, by simp, H4.out.more (by omega)⟩, ?_⟩
            simp [intOf]
            omega
        · have hnI : ¬ (n : Int) < k := by omega
          have HK := hid hT.out.kp
          clear hT
          go_wp2_with fail
          refine (known_any _).mono ?_
          rintro e w5 ⟨rfl, hk⟩
          have HK2 := hid (HK.out.trans hk)
          clear hk HK
          go_wp2
          go_ret
          exact ⟨rfl, HK2.out⟩
theorem robin_walk (w : World) (q T P k : Int) : Calls Try.prog 4 #[.int .i64 q, .int .i64 T, .int .i64 P, .int .i64 k] w fun e w' => e = .returned (.bool true) ∧ Kp w w' [] := by
  by_cases h : (1 ≤ q ∧ q ≤ 100) ∧ (1 ≤ T ∧ T ≤ 16) ∧ (1 ≤ P ∧ P ≤ 31) ∧ (0 ≤ k ∧ k ≤ 2000)
  · obtain ⟨q', rfl⟩ : ∃ n : Nat, q = n := ⟨q.toNat, by omega⟩
    obtain ⟨T', rfl⟩ : ∃ n : Nat, T = n := ⟨T.toNat, by omega⟩
    obtain ⟨P', rfl⟩ : ∃ n : Nat, P = n := ⟨P.toNat, by omega⟩
    obtain ⟨k', rfl⟩ : ∃ n : Nat, k = n := ⟨k.toNat, by omega⟩
    exact robin_ok w q' T' P' k' (by omega) (by omega) (by omega) (by omega) (by omega) (by omega) (by omega)
  · exact robin_no w q T P k h
end Go.Proofs.Ytclbphnelfacfaa
