/- ReadySame: the walk. -/
import Derived.Test.YtfhbcigeoagedaaRefSame
import Derived.Test.YtfhbcigeoagedaaFirstW
namespace Go.Proofs.Ytfhbcigeoagedaa
open Go.RowKit Go.Shelf

/-- Two sides, apart. -/
structure Sd (w wr : World) (r1 q1 s1 : Nat) (L1 : Ls) (r2 q2 s2 : Nat) (L2 : Ls) : Prop where
  a : Tw w wr r1 q1 s1 L1
  b : Tw w wr r2 q2 s2 L2
  hr : r1 ≠ r2
  hq : q1 ≠ q2
section
variable {w wr w' : World} {r1 q1 s1 r2 q2 s2 : Nat} {L1 L2 : Ls}
theorem Sd.swap (h : Sd w wr r1 q1 s1 L1 r2 q2 s2 L2) : Sd w wr r2 q2 s2 L2 r1 q1 s1 L1 := ⟨h.b, h.a, h.hr.symm, h.hq.symm⟩
theorem Sd.did {e : Ending} (h : Sd w wr r1 q1 s1 L1 r2 q2 s2 L2) (hd : Did wr w' r1 q1 s1 e) : ∃ r' L' s', e = .returned (.tuple #[.pointer (some ⟨r', 0, none⟩), .pointer (some ⟨q1, 0, none⟩), .bool true]) ∧ s' ≤ s1 + 8 ∧ Sd w w' r' q1 s' L' r2 q2 s2 L2 := by
  obtain ⟨r', L', s', e1, h1, h2, h3, h4, h5⟩ := hd
  have n1 := h.b.rd.ne h.a.rq
  have n2 := h.a.rd.ne h.b.rq
  have hr2 : Rd w' r2 L2 s2 := h.b.rd.keep h4 (by have := h.hr; simp; omega)
  have hq2 : Rq w' q2 L2 := h.b.rq.kept h4 (by have := h.hq; simp; omega) (by
    intro r hr
    simp at hr
    rcases hr with rfl | rfl
    · obtain ⟨c, u, hR, -⟩ := h.a.rd
      exact ⟨_, _, hR, by decide⟩
    · obtain ⟨F, hF, -⟩ := h.a.rq
      exact ⟨_, _, hF, by decide⟩)
  have hk : Kp w w' [] := h.a.kp.past h4 (by
    intro k hk hl
    have := h.a.lr
    have := h.a.lq
    simp at hk
    omega)
  have hlt := h.b.rd.lt
  refine ⟨r', L', s', e1, h3, ⟨h1, h2, hk, ?_, h.a.lq⟩, ⟨hr2, hq2, hk, h.b.lr, h.b.lq⟩, ?_, h.hq⟩
  · have := h.a.lr
    have := h.a.kp.size
    omega
  · have := h.hr
    omega
theorem Sd.keep (h : Sd w wr r1 q1 s1 L1 r2 q2 s2 L2) (hk : Kp wr w' []) : Sd w w' r1 q1 s1 L1 r2 q2 s2 L2 :=
  ⟨⟨h.a.rd.keep hk (by simp), h.a.rq.keep hk, h.a.kp.trans hk, h.a.lr, h.a.lq⟩, ⟨h.b.rd.keep hk (by simp), h.b.rq.keep hk, h.b.kp.trans hk, h.b.lr, h.b.lq⟩, h.hr, h.hq⟩
end

set_option maxRecDepth 100000 in
set_option maxHeartbeats 8000000 in
theorem same_walk (w : World) (V U : Value) (N M : Nat) (S T : Nat → St) (hV : Sc w V N S) (hU : Sc w U M T) : Calls Try.prog 4 #[V, U] w fun e w' => e = .returned (.bool true) ∧ Kp w w' [] := by
  obtain ⟨ao, cap, rfl⟩ := hV.shape
  obtain ⟨bo, bap, rfl⟩ := hU.shape
  have HV := hid hV
  have HU := hid hU
  clear hV hU
  go_enter Try.func4, Try.ntmps4
  go_wp2_with fail
  refine (new_rd w).mono ?_
  rintro e w1 ⟨rfl, hR1, hK1⟩
  have R1 := hid hR1
  have K1 := hid hK1
  clear hR1 hK1
  go_wp2_with fail
  refine (new_rd w1).mono ?_
  rintro e w2 ⟨rfl, hR2, hK2⟩
  have z29 := (zero_of_info info29).1
  have b29 := built29
  have hlt := R1.out.lt
  have S0 := hid (show Sd w ((w2.alloc (.cells (vcl noV 32 0).toArray 29)).alloc (.cells (vcl noV 32 0).toArray 29)) w.heap.size w2.heap.size 0 (fun _ => []) w1.heap.size (w2.heap.size + 1) 0 (fun _ => []) from by
    have k2 := Kp.alloc w2 (.cells (vcl noV 32 0).toArray 29) []
    have k3 := Kp.alloc (w2.alloc (.cells (vcl noV 32 0).toArray 29)) (.cells (vcl noV 32 0).toArray 29) []
    have kk := ((K1.out.trans hK2).trans k2).trans k3
    have q2 := rq_new (w2.alloc (.cells (vcl noV 32 0).toArray 29))
    rw [World.size_alloc] at q2
    have z1 := K1.out.size
    have z2 := hK2.size
    exact ⟨⟨((R1.out.keep hK2 (by simp)).keep k2 (by simp)).keep k3 (by simp), (rq_new w2).keep k3, kk, Nat.le_refl _, by omega⟩, ⟨(hR2.keep k2 (by simp)).keep k3 (by simp), q2, kk, z1, by omega⟩, by omega, by omega⟩)
  obtain ⟨x0, hx0⟩ : ∃ x0, w.heap.size = x0 := ⟨_, rfl⟩
  obtain ⟨y0, hy0⟩ : ∃ y0, w1.heap.size = y0 := ⟨_, rfl⟩
  obtain ⟨qa, hqa⟩ : ∃ qa, w2.heap.size = qa := ⟨_, rfl⟩
  obtain ⟨qb, hqb⟩ : ∃ qb, w2.heap.size + 1 = qb := ⟨_, rfl⟩
  rw [hqb, hqa, hy0] at S0
  rw [hy0]
  have SX := hid (show Sd w _ x0 qa 0 (fun _ => []) y0 qb 0 (fun _ => []) from by rw [← hx0]; exact S0.out)
  rw [hx0]
  clear hR2 hK2 R1 K1 hlt S0
  have HQ := hid (show qa + 1 = qb by omega)
  go_wp2
  try rw [hqb]
  try rw [hqa]
  clear hqa hqb z29 b29 hx0 hy0
  go_loopw [5, 7, 9, 10] (fun v vq vo vi wr => ∃ (rx i sx : Nat) (Lx : Ls), i ≤ N ∧ i ≤ 60 ∧ sx ≤ 8 * i ∧ v = .pointer (some ⟨rx, 0, none⟩) ∧ vq = .pointer (some ⟨qa, 0, none⟩) ∧ vo = .bool true ∧ vi = .int .i64 i ∧ Hid (Sd w wr rx qa sx Lx y0 qb 0 (fun _ => []))) (fun _ _ _ vi _ => 60 - (intOf vi).toNat)
  case atStart => exact ⟨x0, 0, 0, _, Nat.zero_le _, by decide, Nat.le_refl _, rfl, rfl, rfl, rfl, SX⟩
  case round =>
    obtain ⟨rx, i, sx, Lx, hi, hi2, hs1, rfl, rfl, rfl, rfl, hS⟩ := hrel
    by_cases hgo : i < N ∧ i < 60
    · have g1 : (i : Int) < (N : Int) := by omega
      have g2 : (i : Int) < 60 := by omega
      obtain ⟨b, off, rfl, c0, c1, c2⟩ := (HV.out.keep hS.out.a.kp).at hgo.1
      clear hgo
      go_wp2_with fail
      refine (do_any wr rx qa sx Lx _ _ _ hS.out.a.rd hS.out.a.rq (by omega)).mono ?_
      intro e w2 hd
      obtain ⟨r2, L2, s2, rfl, hs2, hS2⟩ := hS.out.did hd
      have S2 := hid hS2
      clear hd hS2 c0 c1 c2
      go_wp2
      go_roundw
      case rel => exact ⟨r2, i + 1, s2, L2, by omega, by omega, by omega, rfl, rfl, rfl, by simp, S2⟩
      case measure => simp [intOf]; omega
    · by_cases g1 : i < N
      · have g4 : (i : Int) < (N : Int) := by omega
        have g5 : ¬ (i : Int) < 60 := by omega
        clear hgo g1
        have HSX := hid hs1
        go_wp2
        go_loopw [6, 8, 9, 11] (fun v vq vo vi wr => ∃ (ry i sy : Nat) (Ly : Ls), i ≤ M ∧ i ≤ 60 ∧ sy ≤ 8 * i ∧ v = .pointer (some ⟨ry, 0, none⟩) ∧ vq = .pointer (some ⟨qb, 0, none⟩) ∧ vo = .bool true ∧ vi = .int .i64 i ∧ Hid (Sd w wr ry qb sy Ly rx qa sx Lx)) (fun _ _ _ vi _ => 60 - (intOf vi).toNat)
        case atStart => exact ⟨y0, 0, 0, _, Nat.zero_le _, by decide, Nat.le_refl _, rfl, by rw [HQ.out], rfl, rfl, hS.out.swap⟩
        case round =>
          obtain ⟨ry, i, sy, Ly, hi, hi2, hs2, rfl, rfl, rfl, rfl, hS'⟩ := hrel
          by_cases hgo : i < M ∧ i < 60
          · have g1 : (i : Int) < (M : Int) := by omega
            have g2 : (i : Int) < 60 := by omega
            obtain ⟨b, off, rfl, c0, c1, c2⟩ := (HU.out.keep hS'.out.a.kp).at hgo.1
            clear hgo
            go_wp2_with fail
            refine (do_any wr ry qb sy Ly _ _ _ hS'.out.a.rd hS'.out.a.rq (by omega)).mono ?_
            intro e w2 hd
            obtain ⟨r2, L2, s2, rfl, hs2, hS2⟩ := hS'.out.did hd
            have S2 := hid hS2
            clear hd hS2 c0 c1 c2
            go_wp2
            go_roundw
            case rel => exact ⟨r2, i + 1, s2, L2, by omega, by omega, by omega, rfl, rfl, rfl, by simp, S2⟩
            case measure => simp [intOf]; omega
          · by_cases g1 : i < M
            · have g4 : (i : Int) < (M : Int) := by omega
              have g5 : ¬ (i : Int) < 60 := by omega
              clear hgo g1
              obtain ⟨c, u, hr, hp⟩ := hS'.out.b.rd
              obtain ⟨d, v, hr', hp'⟩ := hS'.out.a.rd
              have cs := same_any wr (some ⟨rx, 0, none⟩) (some ⟨ry, 0, none⟩) c d Lx Ly (.inl ⟨rx, u, sx, rfl, hr, hp⟩) (.inl ⟨ry, v, sy, rfl, hr', hp'⟩)
              have e1 : sameC c d = decide (seqs Lx 31 = seqs Ly 31) := by
                rw [Bool.eq_iff_iff, sameC_iff, decide_eq_true_eq]
                exact hp.same hp'
              rw [e1] at cs
              have l1 := hp.len16
              have l2 := hp'.len16
              obtain ⟨bb, hbb⟩ : ∃ bb, decide (seqs Lx 31 = seqs Ly 31) = bb := ⟨_, rfl⟩
              have HBB := hid hbb
              rw [hbb] at cs
              clear hr hp hr' hp' e1 hbb
              go_wp2_with fail
              refine cs.mono ?_
              rintro e y1 ⟨rfl, k1⟩
              have S3 := hid (hS'.out.keep k1)
              clear k1 cs hS'
              have cr := rsame_any y1 qa qb Lx Ly S3.out.b.rq S3.out.a.rq S3.out.b.rd.l16 S3.out.a.rd.l16 (by omega) (by omega)
              rw [HBB.out] at cr
              go_wp2_with fail
              refine cr.mono ?_
              rintro e y2 ⟨rfl, k2⟩
              have S4 := hid (S3.out.keep k2)
              clear k2 cr S3
              obtain ⟨c, u, hr, hp⟩ := S4.out.b.rd
              have cs := same_any y2 (some ⟨rx, 0, none⟩) (some ⟨rx, 0, none⟩) c c Lx Lx (.inl ⟨rx, u, sx, rfl, hr, hp⟩) (.inl ⟨rx, u, sx, rfl, hr, hp⟩)
              rw [show sameC c c = true from (sameC_iff c c).2 (fun _ _ => rfl)] at cs
              clear hr hp
              have hbb : (bb == bb) = true := by simp
              go_wp2_with fail
              refine cs.mono ?_
              rintro e y3 ⟨rfl, k3⟩
              have K3 := hid (S4.out.a.kp.trans k3)
              clear k3 cs S4
              go_wp2_with fail
              refine (known_any y3).mono ?_
              rintro e y4 ⟨rfl, k4⟩
              have K4 := hid (K3.out.trans k4)
              clear k4 K3
              go_wp2
              go_ret
              exact ⟨by simp, K4.out⟩
            · have g4 : ¬ (i : Int) < (M : Int) := by omega
              clear hgo g1
              obtain ⟨c, u, hr, hp⟩ := hS'.out.b.rd
              obtain ⟨d, v, hr', hp'⟩ := hS'.out.a.rd
              have cs := same_any wr (some ⟨rx, 0, none⟩) (some ⟨ry, 0, none⟩) c d Lx Ly (.inl ⟨rx, u, sx, rfl, hr, hp⟩) (.inl ⟨ry, v, sy, rfl, hr', hp'⟩)
              have e1 : sameC c d = decide (seqs Lx 31 = seqs Ly 31) := by
                rw [Bool.eq_iff_iff, sameC_iff, decide_eq_true_eq]
                exact hp.same hp'
              rw [e1] at cs
              have l1 := hp.len16
              have l2 := hp'.len16
              obtain ⟨bb, hbb⟩ : ∃ bb, decide (seqs Lx 31 = seqs Ly 31) = bb := ⟨_, rfl⟩
              have HBB := hid hbb
              rw [hbb] at cs
              clear hr hp hr' hp' e1 hbb
              go_wp2_with fail
              refine cs.mono ?_
              rintro e y1 ⟨rfl, k1⟩
              have S3 := hid (hS'.out.keep k1)
              clear k1 cs hS'
              have cr := rsame_any y1 qa qb Lx Ly S3.out.b.rq S3.out.a.rq S3.out.b.rd.l16 S3.out.a.rd.l16 (by omega) (by omega)
              rw [HBB.out] at cr
              go_wp2_with fail
              refine cr.mono ?_
              rintro e y2 ⟨rfl, k2⟩
              have S4 := hid (S3.out.keep k2)
              clear k2 cr S3
              obtain ⟨c, u, hr, hp⟩ := S4.out.b.rd
              have cs := same_any y2 (some ⟨rx, 0, none⟩) (some ⟨rx, 0, none⟩) c c Lx Lx (.inl ⟨rx, u, sx, rfl, hr, hp⟩) (.inl ⟨rx, u, sx, rfl, hr, hp⟩)
              rw [show sameC c c = true from (sameC_iff c c).2 (fun _ _ => rfl)] at cs
              clear hr hp
              have hbb : (bb == bb) = true := by simp
              go_wp2_with fail
              refine cs.mono ?_
              rintro e y3 ⟨rfl, k3⟩
              have K3 := hid (S4.out.a.kp.trans k3)
              clear k3 cs S4
              go_wp2_with fail
              refine (known_any y3).mono ?_
              rintro e y4 ⟨rfl, k4⟩
              have K4 := hid (K3.out.trans k4)
              clear k4 K3
              go_wp2
              go_ret
              exact ⟨by simp, K4.out⟩

      · have g4 : ¬ (i : Int) < (N : Int) := by omega
        clear hgo g1
        have HSX := hid hs1
        go_wp2
        go_loopw [6, 8, 9, 11] (fun v vq vo vi wr => ∃ (ry i sy : Nat) (Ly : Ls), i ≤ M ∧ i ≤ 60 ∧ sy ≤ 8 * i ∧ v = .pointer (some ⟨ry, 0, none⟩) ∧ vq = .pointer (some ⟨qb, 0, none⟩) ∧ vo = .bool true ∧ vi = .int .i64 i ∧ Hid (Sd w wr ry qb sy Ly rx qa sx Lx)) (fun _ _ _ vi _ => 60 - (intOf vi).toNat)
        case atStart => exact ⟨y0, 0, 0, _, Nat.zero_le _, by decide, Nat.le_refl _, rfl, by rw [HQ.out], rfl, rfl, hS.out.swap⟩
        case round =>
          obtain ⟨ry, i, sy, Ly, hi, hi2, hs2, rfl, rfl, rfl, rfl, hS'⟩ := hrel
          by_cases hgo : i < M ∧ i < 60
          · have g1 : (i : Int) < (M : Int) := by omega
            have g2 : (i : Int) < 60 := by omega
            obtain ⟨b, off, rfl, c0, c1, c2⟩ := (HU.out.keep hS'.out.a.kp).at hgo.1
            clear hgo
            go_wp2_with fail
            refine (do_any wr ry qb sy Ly _ _ _ hS'.out.a.rd hS'.out.a.rq (by omega)).mono ?_
            intro e w2 hd
            obtain ⟨r2, L2, s2, rfl, hs2, hS2⟩ := hS'.out.did hd
            have S2 := hid hS2
            clear hd hS2 c0 c1 c2
            go_wp2
            go_roundw
            case rel => exact ⟨r2, i + 1, s2, L2, by omega, by omega, by omega, rfl, rfl, rfl, by simp, S2⟩
            case measure => simp [intOf]; omega
          · by_cases g1 : i < M
            · have g4 : (i : Int) < (M : Int) := by omega
              have g5 : ¬ (i : Int) < 60 := by omega
              clear hgo g1
              obtain ⟨c, u, hr, hp⟩ := hS'.out.b.rd
              obtain ⟨d, v, hr', hp'⟩ := hS'.out.a.rd
              have cs := same_any wr (some ⟨rx, 0, none⟩) (some ⟨ry, 0, none⟩) c d Lx Ly (.inl ⟨rx, u, sx, rfl, hr, hp⟩) (.inl ⟨ry, v, sy, rfl, hr', hp'⟩)
              have e1 : sameC c d = decide (seqs Lx 31 = seqs Ly 31) := by
                rw [Bool.eq_iff_iff, sameC_iff, decide_eq_true_eq]
                exact hp.same hp'
              rw [e1] at cs
              have l1 := hp.len16
              have l2 := hp'.len16
              obtain ⟨bb, hbb⟩ : ∃ bb, decide (seqs Lx 31 = seqs Ly 31) = bb := ⟨_, rfl⟩
              have HBB := hid hbb
              rw [hbb] at cs
              clear hr hp hr' hp' e1 hbb
              go_wp2_with fail
              refine cs.mono ?_
              rintro e y1 ⟨rfl, k1⟩
              have S3 := hid (hS'.out.keep k1)
              clear k1 cs hS'
              have cr := rsame_any y1 qa qb Lx Ly S3.out.b.rq S3.out.a.rq S3.out.b.rd.l16 S3.out.a.rd.l16 (by omega) (by omega)
              rw [HBB.out] at cr
              go_wp2_with fail
              refine cr.mono ?_
              rintro e y2 ⟨rfl, k2⟩
              have S4 := hid (S3.out.keep k2)
              clear k2 cr S3
              obtain ⟨c, u, hr, hp⟩ := S4.out.b.rd
              have cs := same_any y2 (some ⟨rx, 0, none⟩) (some ⟨rx, 0, none⟩) c c Lx Lx (.inl ⟨rx, u, sx, rfl, hr, hp⟩) (.inl ⟨rx, u, sx, rfl, hr, hp⟩)
              rw [show sameC c c = true from (sameC_iff c c).2 (fun _ _ => rfl)] at cs
              clear hr hp
              have hbb : (bb == bb) = true := by simp
              go_wp2_with fail
              refine cs.mono ?_
              rintro e y3 ⟨rfl, k3⟩
              have K3 := hid (S4.out.a.kp.trans k3)
              clear k3 cs S4
              go_wp2_with fail
              refine (known_any y3).mono ?_
              rintro e y4 ⟨rfl, k4⟩
              have K4 := hid (K3.out.trans k4)
              clear k4 K3
              go_wp2
              go_ret
              exact ⟨by simp, K4.out⟩
            · have g4 : ¬ (i : Int) < (M : Int) := by omega
              clear hgo g1
              obtain ⟨c, u, hr, hp⟩ := hS'.out.b.rd
              obtain ⟨d, v, hr', hp'⟩ := hS'.out.a.rd
              have cs := same_any wr (some ⟨rx, 0, none⟩) (some ⟨ry, 0, none⟩) c d Lx Ly (.inl ⟨rx, u, sx, rfl, hr, hp⟩) (.inl ⟨ry, v, sy, rfl, hr', hp'⟩)
              have e1 : sameC c d = decide (seqs Lx 31 = seqs Ly 31) := by
                rw [Bool.eq_iff_iff, sameC_iff, decide_eq_true_eq]
                exact hp.same hp'
              rw [e1] at cs
              have l1 := hp.len16
              have l2 := hp'.len16
              obtain ⟨bb, hbb⟩ : ∃ bb, decide (seqs Lx 31 = seqs Ly 31) = bb := ⟨_, rfl⟩
              have HBB := hid hbb
              rw [hbb] at cs
              clear hr hp hr' hp' e1 hbb
              go_wp2_with fail
              refine cs.mono ?_
              rintro e y1 ⟨rfl, k1⟩
              have S3 := hid (hS'.out.keep k1)
              clear k1 cs hS'
              have cr := rsame_any y1 qa qb Lx Ly S3.out.b.rq S3.out.a.rq S3.out.b.rd.l16 S3.out.a.rd.l16 (by omega) (by omega)
              rw [HBB.out] at cr
              go_wp2_with fail
              refine cr.mono ?_
              rintro e y2 ⟨rfl, k2⟩
              have S4 := hid (S3.out.keep k2)
              clear k2 cr S3
              obtain ⟨c, u, hr, hp⟩ := S4.out.b.rd
              have cs := same_any y2 (some ⟨rx, 0, none⟩) (some ⟨rx, 0, none⟩) c c Lx Lx (.inl ⟨rx, u, sx, rfl, hr, hp⟩) (.inl ⟨rx, u, sx, rfl, hr, hp⟩)
              rw [show sameC c c = true from (sameC_iff c c).2 (fun _ _ => rfl)] at cs
              clear hr hp
              have hbb : (bb == bb) = true := by simp
              go_wp2_with fail
              refine cs.mono ?_
              rintro e y3 ⟨rfl, k3⟩
              have K3 := hid (S4.out.a.kp.trans k3)
              clear k3 cs S4
              go_wp2_with fail
              refine (known_any y3).mono ?_
              rintro e y4 ⟨rfl, k4⟩
              have K4 := hid (K3.out.trans k4)
              clear k4 K3
              go_wp2
              go_ret
              exact ⟨by simp, K4.out⟩

end Go.Proofs.Ytfhbcigeoagedaa
