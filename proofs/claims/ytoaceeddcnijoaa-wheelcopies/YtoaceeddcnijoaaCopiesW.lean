/- WheelCopies' walk, out of stands. -/
import Derived.Test.YtoaceeddcnijoaaPlaysW
import Derived.ChangeKeysEq
import Derived.Deep.QuietTactic
namespace Go.Proofs.Ytoaceeddcnijoaa
open Go.RowKit Go.Shelf Go.Lib Go.Sort

/-- A reference is kept by a call that writes other blocks, none of its lists' kind. -/
theorem Rf.away {w w' : World} {rb : Nat} {L : List Dl} (h : Rf w rb L) {rws : List Nat} (hk : Kp w w' rws) (h1 : rb ∉ rws) (hr : ∀ k ∈ rws, ∃ c t, w.heap[k]? = some (.cells c t (0, 0)) ∧ t ≠ 45) : Rf w' rb L := by
  obtain ⟨v, h2, h3⟩ := h
  refine ⟨v, (hk.block rb (lt_of_block h2) h1).trans h2, h3.kp hk fun g hg hm => ?_⟩
  obtain ⟨-, cur, hcur⟩ := owns_block h3 hg
  obtain ⟨c, t, hc, ht⟩ := hr g hm
  exact block_ne hcur hc (fun e => ht e.symm) rfl
theorem Pr.kinds {w W : World} {wb rb : Nat} {F : Nat → Value} {L : List Dl} (h : Pr w W wb rb F L) : ∀ k ∈ rb :: rows F wb, ∃ c t, W.heap[k]? = some (.cells c t (0, 0)) ∧ t ≠ 45 := by
  intro k hk
  rcases List.mem_cons.1 hk with rfl | hk
  · obtain ⟨c, hc⟩ := h.rf.kind
    exact ⟨c, 29, hc, by decide⟩
  · obtain ⟨c, t, hc, ht⟩ := h.wl.kind hk
    exact ⟨c, t, hc, by rcases ht with rfl | rfl <;> decide⟩
/-- Two pairs, apart. -/
structure Tp (w W : World) (wb rb : Nat) (F : Nat → Value) (L : List Dl) (vb qb : Nat) (G : Nat → Value) (M : List Dl) : Prop where
  p1 : Pr w W wb rb F L
  p2 : Pr w W vb qb G M
  ap : ∀ k ∈ rb :: rows F wb, k ∉ qb :: rows G vb
  kp : Kp w W []
section
variable {w W W' : World} {wb rb vb qb : Nat} {F G : Nat → Value} {L M : List Dl}
theorem Tp.keep (h : Tp w W wb rb F L vb qb G M) (hk : Kp W W' []) : Tp w W' wb rb F L vb qb G M := ⟨h.p1.keep hk, h.p2.keep hk, h.ap, h.kp.trans hk⟩
theorem Tp.swap (h : Tp w W wb rb F L vb qb G M) : Tp w W vb qb G M wb rb F L := ⟨h.p2, h.p1, fun k h1 h2 => h.ap k h2 h1, h.kp⟩
theorem Pr.lt (h : Pr w W wb rb F L) : ∀ k ∈ rb :: rows F wb, k < W.heap.size := by
  intro k hk
  rcases List.mem_cons.1 hk with rfl | hk
  · exact h.rf.lt
  · exact h.wl.rowslt hk
theorem Tp.step (h : Tp w W wb rb F L vb qb G M) {L' : List Dl} (hd : Did W W' wb rb F L') : ∃ F', Tp w W' wb rb F' L' vb qb G M ∧ Kp W W' (rb :: rows F wb) ∧ Nr F' F W.heap.size := by
  obtain ⟨F', h1, h2, h3, h4⟩ := h.p1.step h.kp hd
  have hk := h.p1.kinds
  refine ⟨F', ⟨h1, ⟨h.p2.wl.keep h3 (fun k hm hn => h.ap k hn (by simp [hm])), h.p2.rf.away h3 (fun hm => h.ap _ hm (by simp)) hk, h.p2.fr⟩, fun k hm hn => ?_, h2⟩, h3, h4⟩
  rcases List.mem_cons.1 hm with rfl | hm
  · exact h.ap k (by simp) hn
  · rcases h4.rows hm with q | q
    · exact h.ap k (by simp [q]) hn
    · have := h.p2.lt k hn; omega
end
theorem eql45 (x1 x2 y1 y2 : Int) (W : World) : (binOp .eql 45 (.agg #[.int .i64 x1, .int .i64 x2]) (.agg #[.int .i64 y1, .int .i64 y2])).run Try.prog W = .ok (.bool (x1 == y1 && x2 == y2)) W := by
  cases h1 : (x1 == y1) <;> cases h2 : (x2 == y2) <;> go_simp

set_option maxRecDepth 100000 in
set_option maxHeartbeats 2000000 in
theorem copies_good (hst : StandsOk) (w : World) (so to : Option Addr) (N M sc tc : Nat) (S T : Nat → Sp) (hV : Sc w (.slice so N sc) N S) (hU : Sc w (.slice to M tc) M T) (hN : N ≤ 100) (hM : M ≤ 100) :
    Calls Try.prog 5 #[.slice so N sc, .slice to M tc] w fun e w' => e = .returned (.bool true) ∧ Kp w w' [] := by
  have hNI : ¬ (100 : Int) < N := by omega
  have hMI : ¬ (100 : Int) < M := by omega
  have HV := hid hV
  have HU := hid hU
  have HST := hid hst
  clear hV hU hst
  go_enter Try.func5, Try.ntmps5
  go_wp2_with fail
  refine (wnew w).mono ?_
  rintro e w1 ⟨rfl, hw1, hk1⟩
  have H1 := hid (And.intro hw1 hk1)
  clear hw1 hk1
  go_wp2_with fail
  refine (wnew w1).mono ?_
  rintro e w2 ⟨rfl, hw2, hk2⟩
  have H2 := hid (And.intro hw2 hk2)
  clear hw2 hk2
  go_wp2_with fail
  have T0 := hid (show Tp w ((w2.alloc (.cells #[.slice none 0 0] 29)).alloc (.cells #[.slice none 0 0] 29)) w.heap.size w2.heap.size (fun _ => .slice none 0 0) [] w1.heap.size (w2.heap.size + 1) (fun _ => .slice none 0 0) [] by
    have s1 := H1.out.2.size
    have s2 := H2.out.2.size
    have l1 := H1.out.1.lt
    have l2 := H2.out.1.lt
    have k3 := Kp.alloc w2 (.cells #[.slice none 0 0] 29) []
    have k4 := Kp.alloc (w2.alloc (.cells #[.slice none 0 0] 29)) (.cells #[.slice none 0 0] 29) []
    refine ⟨⟨(H1.out.1.same H2.out.2).same (k3.trans k4), (rf_new w2).keep k4, ?_⟩, ⟨H2.out.1.same (k3.trans k4), ?_, ?_⟩, ?_, (H1.out.2.trans H2.out.2).trans (k3.trans k4)⟩
    · intro k hk; rw [rows_new] at hk; simp at hk; omega
    · have := rf_new (w2.alloc (.cells #[.slice none 0 0] 29))
      rw [World.size_alloc] at this
      exact this
    · intro k hk; rw [rows_new] at hk; simp at hk; omega
    · intro k hk; rw [rows_new] at hk ⊢; simp at hk ⊢; omega)
  obtain ⟨W3, hW3⟩ : ∃ W3, (w2.alloc (.cells #[.slice none 0 0] 29)).alloc (.cells #[.slice none 0 0] 29) = W3 := ⟨_, rfl⟩
  rw [hW3] at T0 ⊢
  clear hW3
  obtain ⟨wb, hwb⟩ : ∃ wb, w.heap.size = wb := ⟨_, rfl⟩
  obtain ⟨ob, hob⟩ : ∃ ob, w1.heap.size = ob := ⟨_, rfl⟩
  obtain ⟨rb, hrb⟩ : ∃ rb, w2.heap.size = rb := ⟨_, rfl⟩
  obtain ⟨qb, hqb⟩ : ∃ qb, rb + 1 = qb := ⟨_, rfl⟩
  have T1 : Hid (Tp w W3 wb rb (fun _ => .slice none 0 0) [] ob qb (fun _ => .slice none 0 0) []) := hid (by rw [← hwb, ← hob, ← hqb, ← hrb]; exact T0.out)
  rw [hwb, hob, hrb, hqb]
  clear T0 hwb hob hrb hqb H1 H2
  go_loopw [9] (fun vi W => ∃ i : Nat, i ≤ N ∧ vi = .int .i64 i ∧ Hid (∃ F G L, Tp w W wb rb F L ob qb G L)) (fun vi _ => N - (intOf vi).toNat)
  case atStart => exact ⟨0, by omega, rfl, hid ⟨_, _, _, T1.out⟩⟩
  case round =>
    obtain ⟨i, hi, rfl, hI⟩ := hrel
    obtain ⟨F, G, L, hT⟩ := hI.out
    have TT := hid hT
    clear hI hT T1
    by_cases hlt : i < N
    · have hltI : (i : Int) < N := by omega
      obtain ⟨sb, off, rfl, y0, y1, y2, -⟩ := (HV.out.keep TT.out.kp).at hlt
      go_wp2_with fail
      refine (does_any wr wb rb F L (S i).k (S i).c (S i).n TT.out.p1.wl TT.out.p1.rf).mono ?_
      rintro e W4 ⟨rfl, hd⟩
      obtain ⟨F1, hT4, -, -⟩ := TT.out.step hd
      have T4 := hid hT4
      clear hd hT4 TT y0 y1 y2
      obtain ⟨sb', off', e', z0, z1, z2, -⟩ := (HV.out.keep T4.out.kp).at hlt
      obtain ⟨rfl, rfl⟩ : sb = sb' ∧ off = off' := by simpa using e'
      clear e'
      go_wp2_with fail
      refine (does_any W4 ob qb G L (S i).k (S i).c (S i).n T4.out.p2.wl T4.out.p2.rf).mono ?_
      rintro e W5 ⟨rfl, hd⟩
      obtain ⟨G1, hT5, -, -⟩ := T4.out.swap.step hd
      have T5 := hid hT5.swap
      clear hd hT5 T4 z0 z1 z2
      go_wp2
      go_roundw
      case rel => exact ⟨i + 1, by omega, by simp, hid ⟨_, _, _, T5.out⟩⟩
      case measure => simp [intOf]; omega
    · have hltI : ¬ (i : Int) < N := by omega
      clear HV
      go_wp2_with fail
      refine (wcopy wr wb F L TT.out.p1.wl).mono ?_
      rintro e W6 ⟨rfl, F3, hc, hcr, k6⟩
      have C6 := hid hc
      have T6 := hid (TT.out.keep k6)
      have CR := hid hcr
      have LT := hid (And.intro TT.out.p1.lt TT.out.p2.lt)
      have SZ := hid (show w.heap.size ≤ wr.heap.size from TT.out.kp.size)
      clear hc hcr k6 TT
      obtain ⟨cb, hcb⟩ : ∃ cb, wr.heap.size = cb := ⟨_, rfl⟩
      rw [hcb] at C6 CR LT SZ ⊢
      clear hcb
      go_wp2_with fail
      refine (wsame W6 wb cb F F3 L L T6.out.p1.wl C6.out).mono ?_
      rintro e W7 ⟨rfl, k7⟩
      rw [show decide (L = L) = true by simp]
      have T7 := hid (T6.out.keep k7)
      have C7 := hid (C6.out.same k7)
      clear k7 T6 C6
      go_wp2_with fail
      refine (wsame W7 wb ob F G L L T7.out.p1.wl T7.out.p2.wl).mono ?_
      rintro e W8 ⟨rfl, k8⟩
      rw [show decide (L = L) = true by simp]
      have T8 := hid (T7.out.keep k8)
      have C8 := hid (C7.out.same k8)
      clear k8 T7 C7
      go_wp2_with fail
      refine (wsame W8 cb ob F3 G L L C8.out T8.out.p2.wl).mono ?_
      rintro e W9 ⟨rfl, k9⟩
      rw [show decide (L = L) = true by simp]
      have T9 := hid (T8.out.keep k9)
      have C9 := hid (C8.out.same k9)
      clear k9 T8 C8
      -- from here on: (w, r) hold L, o holds L, (c, q) go on
      have U9 := hid (show Tp w W9 wb rb F L cb qb F3 L ∧ Wl W9 ob G L ∧ ∀ k ∈ qb :: rows F3 cb, k ∉ rows G ob by
        refine ⟨⟨T9.out.p1, ⟨C9.out, T9.out.p2.rf, fun k hk => ?_⟩, fun k hk hn => ?_, T9.out.kp⟩, T9.out.p2.wl, fun k hk hn => ?_⟩
        · rcases List.mem_cons.1 hk with rfl | hk
          · exact T9.out.p2.fr k (by simp)
          · have := CR.out k hk; have := SZ.out; omega
        · rcases List.mem_cons.1 hn with rfl | hn
          · exact T9.out.ap k hk (by simp)
          · have h1 := CR.out k hn
            have h2 := LT.out.1 k hk
            omega
        · rcases List.mem_cons.1 hk with rfl | hk
          · exact T9.out.p2.wl.apart T9.out.p2.rf k hn rfl
          · have h1 := CR.out k hk
            have h2 := LT.out.2 k (by simp [hn])
            omega)
      clear T9 C9 CR LT SZ
      go_wp2_with fail
      go_loopw [11] (fun vi W => ∃ i : Nat, i ≤ M ∧ vi = .int .i64 i ∧ Hid (∃ F4 K, Tp w W wb rb F L cb qb F4 K ∧ Wl W ob G L ∧ ∀ k ∈ qb :: rows F4 cb, k ∉ rows G ob)) (fun vi _ => M - (intOf vi).toNat)
      case atStart => exact ⟨0, by omega, rfl, hid ⟨_, _, U9.out⟩⟩
      case round =>
        obtain ⟨j, hj, rfl, hJ⟩ := hrel
        obtain ⟨F4, K, hT, hO, hA⟩ := hJ.out
        have TT := hid hT
        have OO := hid hO
        have AA := hid hA
        clear hJ hT hO hA U9
        by_cases hjl : j < M
        · have hjI : (j : Int) < M := by omega
          obtain ⟨sb, off, rfl, y0, y1, y2, -⟩ := (HU.out.keep TT.out.kp).at hjl
          go_wp2_with fail
          refine (does_any wr cb qb F4 K (T j).k (T j).c (T j).n TT.out.p2.wl TT.out.p2.rf).mono ?_
          rintro e W4 ⟨rfl, hd⟩
          obtain ⟨F5, hT4, hk4, hn4⟩ := TT.out.swap.step hd
          have T4 := hid hT4.swap
          have O4 := hid (OO.out.keep hk4 (fun k hm hn => AA.out k hn hm))
          have A4 := hid (show ∀ k ∈ qb :: rows F5 cb, k ∉ rows G ob from fun k hk hn => by
            rcases List.mem_cons.1 hk with rfl | hk
            · exact AA.out k (by simp) hn
            · rcases hn4.rows hk with q | q
              · exact AA.out k (by simp [q]) hn
              · have := OO.out.rowslt hn; omega)
          clear hd hT4 hk4 hn4 TT OO AA y0 y1 y2
          go_wp2
          go_roundw
          case rel => exact ⟨j + 1, by omega, by simp, hid ⟨_, _, T4.out, O4.out, A4.out⟩⟩
          case measure => simp [intOf]; omega
        · have hjI : ¬ (j : Int) < M := by omega
          clear HU AA
          obtain ⟨v1, hb1, hO1⟩ := TT.out.p1.rf
          obtain ⟨v2, hb2, hO2⟩ := TT.out.p2.rf
          obtain ⟨ao1, cp1, rfl⟩ := hO1.slice
          obtain ⟨ao2, cp2, rfl⟩ := hO2.slice
          obtain ⟨N1, hN1⟩ : ∃ N1, L.length = N1 := ⟨_, rfl⟩
          obtain ⟨N2, hN2⟩ : ∃ N2, K.length = N2 := ⟨_, rfl⟩
          rw [hN1] at hb1 hO1
          rw [hN2] at hb2 hO2
          have c1 := cell_one hb1
          have c2 := cell_one hb2
          have HO := hid (And.intro hO1 hO2)
          have HNN := hid (And.intro hN1 hN2)
          have hl1 : N1 ≤ 64 := by rw [← hN1]; exact TT.out.p1.wl.lw.len
          have hl2 : N2 ≤ 64 := by rw [← hN2]; exact TT.out.p2.wl.lw.len
          clear hO1 hO2 hN1 hN2
          go_wp2_with fail
          go_quiet (fail)
          have TQ := hid (show Tp w (wr.drewN nq) wb rb F L cb qb F4 K ∧ Wl (wr.drewN nq) ob G L from ⟨TT.out.keep (Kp.drewN _ _ _), OO.out.same (Kp.drewN _ _ _)⟩)
          have KQ := hid (Kp.drewN wr nq [])
          have B0 := hid (show (((N2 : Int) == N1) : Bool) = decide (N2 = N1 ∧ K.take 0 = L.take 0) by
            simp only [List.take_zero, and_true]
            rw [Bool.eq_iff_iff]
            simp
            omega)
          obtain ⟨W5, hW5⟩ : ∃ W5, wr.drewN nq = W5 := ⟨_, rfl⟩
          obtain ⟨b0, hb0⟩ : ∃ b0 : Bool, ((N2 : Int) == N1) = b0 := ⟨_, rfl⟩
          rw [hW5] at TQ KQ ⊢
          have HB := hid (show W5.heap[rb]? = _ ∧ W5.heap[qb]? = _ from ⟨(KQ.out.block rb (lt_of_block hb1) (by simp)).trans hb1, (KQ.out.block qb (lt_of_block hb2) (by simp)).trans hb2⟩)
          have HO := hid (And.intro (HO.out.1.keep KQ.out) (HO.out.2.keep KQ.out))
          rw [hb0] at B0 ⊢
          clear hW5 hb0 c1 c2 hb1 hb2 TT OO
          go_wp2_with fail
          go_loopw [12, 13] (fun va vi W => ∃ (k : Nat) (b : Bool), k ≤ N2 ∧ vi = .int .i64 k ∧ va = .bool b ∧ Hid ((Tp w W wb rb F L cb qb F4 K ∧ Wl W ob G L ∧ Kp W5 W []) ∧ b = decide (N2 = N1 ∧ K.take k = L.take k))) (fun _ vi _ => N2 - (intOf vi).toNat)
          case atStart => exact ⟨0, b0, by omega, rfl, rfl, hid ⟨⟨TQ.out.1, TQ.out.2, Kp.refl _ _⟩, B0.out⟩⟩
          case round =>
            obtain ⟨k, b, hk, rfl, rfl, hQ⟩ := hrel
            obtain ⟨⟨hT, hO, hKx⟩, hb⟩ := hQ.out
            have T6 := hid hT
            have O6 := hid hO
            have KX := hid hKx
            have BB := hid hb
            have c1 := cell_one ((hKx.block rb (lt_of_block HB.out.1) (by simp)).trans HB.out.1)
            have c2 := cell_one ((hKx.block qb (lt_of_block HB.out.2) (by simp)).trans HB.out.2)
            clear hQ hT hO hKx hb TQ B0
            by_cases hgo : k < N2 ∧ b = true
            · obtain ⟨hk2, rfl⟩ := hgo
              have hkI : (k : Int) < N2 := by omega
              have hd := BB.out
              have hd' : N2 = N1 ∧ K.take k = L.take k := by simpa using hd.symm
              obtain ⟨hnn, htk⟩ := hd'
              subst hnn
              have hkl : k < L.length := by have := HNN.out; omega
              have hkk : k < K.length := by have := HNN.out; omega
              obtain ⟨g1, rfl, u1, u2⟩ := (HO.out.1.keep KX.out).at hkl
              obtain ⟨g2, rfl, v1, v2⟩ := (HO.out.2.keep KX.out).at hkk
              obtain ⟨x, hx⟩ : ∃ x, L[k]! = x := ⟨_, rfl⟩
              obtain ⟨y, hy⟩ : ∃ y, K[k]! = y := ⟨_, rfl⟩
              rw [hx] at u1 u2
              rw [hy] at v1 v2
              have hgd := fun (w : World) (p q : Operand) (xs ys : Array Value) => run_eqGuard_agg (P := Try.prog) w .eql 45 p q xs ys (by kernel_rfl)
              have he := eql45 y.1 y.2 x.1 x.2
              obtain ⟨r, hr⟩ : ∃ r, (y.1 == x.1 && y.2 == x.2) = r := ⟨_, rfl⟩
              rw [hr] at he
              have NB := hid (show r = decide (N2 = N2 ∧ K.take (k + 1) = L.take (k + 1)) by
                rw [← hr, take_dl hkl, take_dl hkk, hx, hy, htk, Bool.eq_iff_iff]
                simp [Prod.ext_iff])
              clear hr hx hy hkl hkk htk hd
              go_wp2_with fail
              go_quiet (fail)
              have T7 := hid (T6.out.keep (Kp.drewN wr nq []))
              have O7 := hid (O6.out.same (Kp.drewN wr nq []))
              have K7 := hid (KX.out.trans (Kp.drewN wr nq []))
              go_wp2
              go_roundw
              case rel => exact ⟨k + 1, r, by omega, by simp, rfl, hid ⟨⟨T7.out, O7.out, K7.out⟩, NB.out⟩⟩
              case measure => simp [intOf]; omega
            · have HF := hid (show b = decide (K = L) by
                rw [BB.out, Bool.eq_iff_iff]
                simp only [decide_eq_true_eq]
                constructor
                · rintro ⟨h1, h2⟩
                  have hkN : k = N2 := by
                    rcases Nat.lt_or_ge k N2 with q | q
                    · exact absurd ⟨q, by rw [BB.out]; simp [h1, h2]⟩ hgo
                    · omega
                  rw [List.take_of_length_le (by have := HNN.out; omega), List.take_of_length_le (by have := HNN.out; omega)] at h2
                  exact h2
                · rintro rfl
                  exact ⟨by have := HNN.out; omega, rfl⟩)
              by_cases hk2 : k < N2
              case' pos =>
                have hkI : (k : Int) < N2 := by omega
                obtain rfl : b = false := by
                  cases b with
                  | false => rfl
                  | true => exact absurd ⟨hk2, rfl⟩ hgo
                clear hgo BB
                go_wp2_with fail
              case' neg =>
                have hkI : ¬ (k : Int) < N2 := by omega
                clear hgo BB
                go_wp2_with fail
              all_goals
                refine (wsame _ wb ob F G L L T6.out.p1.wl O6.out).mono ?_
                rintro e W7 ⟨rfl, k7⟩
                rw [show decide (L = L) = true by simp]
                have T7 := hid (T6.out.keep k7)
                clear k7 O6
                go_wp2_with fail
                refine (wsame W7 cb wb F4 F K L T7.out.p2.wl T7.out.p1.wl).mono ?_
                rintro e W8 ⟨rfl, k8⟩
                rw [← HF.out]
                have T8 := hid (T7.out.keep k8)
                clear k8 T7 T6
                have qb2 : ∀ b : Bool, (b == b) = true := by simp
                go_wp2_with fail
                refine (HST.out W8 wb rb F L 0 (-1) T8.out.p1.wl T8.out.p1.rf).mono ?_
                rintro e W9 ⟨rfl, k9⟩
                have K9 := hid (T8.out.kp.trans k9)
                clear k9 T8
                go_wp2_with fail
                refine (known_any _).mono ?_
                rintro e Wa ⟨rfl, ka⟩
                have Ka := hid (K9.out.trans ka)
                clear ka K9
                go_wp2
                go_ret
                exact ⟨rfl, Ka.out⟩

set_option maxRecDepth 100000 in
set_option maxHeartbeats 1000000 in
theorem copies_much (w : World) (so to : Option Addr) (N M sc tc : Nat) (h : ¬ (N ≤ 100 ∧ M ≤ 100)) :
    Calls Try.prog 5 #[.slice so N sc, .slice to M tc] w fun e w' => e = .returned (.bool true) ∧ Kp w w' [] := by
  rcases (show (100 : Int) < N ∨ ¬ (100 : Int) < N ∧ (100 : Int) < M by omega) with h1 | ⟨h1, h2⟩
  all_goals
    clear h
    go_enter Try.func5, Try.ntmps5
    go_wp2_with fail
    refine (known_any _).mono ?_
    rintro e w2 ⟨rfl, k2⟩
    have K2 := hid k2
    clear k2
    go_wp2
    go_ret
    exact ⟨rfl, K2.out⟩
end Go.Proofs.Ytoaceeddcnijoaa
