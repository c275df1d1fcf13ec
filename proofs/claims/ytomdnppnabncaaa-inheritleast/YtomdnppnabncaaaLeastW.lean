/- InheritLeast's walk: the effective priorities are such numbers, and the least ones. -/
import Derived.Test.YtomdnppnabncaaaPl
namespace Go.Proofs.Ytomdnppnabncaaa
open Go.RowKit Go.Shelf
open Go.Lib hiding intOf

/-- Thread s has what t has, and a row of waiting ones leads there. -/
def Hit (G : Gs) (x : Int) (t s : Nat) : Prop := ∃ j, j ≤ G.n ∧ it G.w j s = (t : Int) ∧ (G.b s = x ∨ G.c s = x)
theorem Eff.hit {G : Gs} (hG : Gok G) {L : List Int} (h : Eff G L) {t : Nat} (ht : t < G.n) : ∃ s, s < G.n ∧ Hit G L[t]! t s := by
  obtain ⟨s, hs, k, e, q⟩ := h.att t ht
  obtain ⟨j, hj, e2⟩ := within hG.wt hs k e
  refine ⟨s, hs, j, by omega, e2, ?_⟩
  simp only [ownP] at q
  omega
theorem Rg.at {G : Gs} (hG : Gok G) {L : List Int} (hE : Eff G L) {t : Nat} (ht : t < G.n) {R : List Int} {b : Bool} (h : Rg G t R b) {j : Nat} (hj : j < R.length) : b = true ∧ 0 ≤ R[j]! ∧ R[j]! < G.n ∧ L[(R[j]!).toNat]! = L[t]! := by
  rcases h with ⟨rfl, k, k0, e, -, rfl⟩ | ⟨-, rfl, -⟩
  · have hjk : j < k := by simpa using hj
    have e1 : ((List.range k).map fun j => it G.w j t)[j]! = it G.w j t := by simp [getElem!_pos, hjk]
    rw [e1]
    have h0 := it_low (w := G.w) (s := t) (k := k) (by omega) j (by omega)
    have hb := it_bd hG.wt ht j
    refine ⟨rfl, h0, hb.2, ?_⟩
    exact ring_one (l := fun t => L[t]!) hG.wt hE.sol ht e (Nat.le_of_lt hjk)
  · simp at hj
/-- What is looked at: both graphs and All's numbers. -/
structure Le (Gr : World → Nat → Gs → Prop) (w W : World) (gb rb : Nat) (G : Gs) (gl n cap : Nat) (L : List Int) : Prop where
  gr : Gr W gb G
  rr : Rr W rb G
  ns : Ns W 0 (.slice (some ⟨gl, 0, none⟩) n cap) L
  kp : Kp w W []
section
variable {Gr : World → Nat → Gs → Prop} {w W W' : World} {gb rb gl n cap : Nat} {G : Gs} {L : List Int}
theorem Le.same (P : Prg Gr) (h : Le Gr w W gb rb G gl n cap L) (hk : Kp W W' []) : Le Gr w W' gb rb G gl n cap L := ⟨P.still h.gr hk, h.rr.same hk, h.ns.keep hk, h.kp.trans hk⟩
theorem Le.drewN (P : Prg Gr) (h : Le Gr w W gb rb G gl n cap L) (k : Nat) : Le Gr w (W.drewN k) gb rb G gl n cap L := h.same P (Kp.drewN _ _ _)
theorem Le.at (h : Le Gr w W gb rb G gl n cap L) {t : Nat} (ht : t < L.length) : W.cell? ⟨gl, t, none⟩ = some (.int .i64 L[t]!) := by
  obtain ⟨g, e, c, -⟩ := h.ns.at ht rfl
  simp at e
  subst e
  exact c
end
section
variable {Gr : World → Nat → Gs → Prop}
set_option maxRecDepth 100000 in
set_option maxHeartbeats 4000000 in
theorem least_no (P : Prg Gr) (kn : KnownOk) (w : World) (k : Int) (V : Value) (N : Nat) (S : Nat → Sp) (hV : Sc w V N S) (hk : ¬ (1 ≤ k ∧ k ≤ 16)) : Calls Try.prog 4 #[.int .i64 k, V] w fun e w' => e = .returned (.bool true) ∧ Kp w w' [] := by
  obtain ⟨so, sc, rfl⟩ := hV.shape
  have c1 := P.new_no w k hk
  have c2 := fun W => rnew_no W k hk
  clear hV hk
  go_enter Try.func4, Try.ntmps4
  go_wp2_with fail
  refine c1.mono ?_
  rintro e w1 ⟨rfl, k1⟩
  have K1 := hid k1
  clear k1 c1
  go_wp2_with fail
  refine (c2 w1).mono ?_
  rintro e w2 ⟨rfl, hE⟩
  subst hE
  go_wp2_with fail
  refine (kn _).mono ?_
  rintro e w3 ⟨rfl, k3⟩
  have K3 := hid (K1.out.trans k3)
  clear k3 K1
  go_wp2
  go_ret
  exact ⟨rfl, K3.out⟩
set_option maxRecDepth 100000 in
set_option maxHeartbeats 8000000 in
theorem least_ok (P : Prg Gr) (kn : KnownOk) (w : World) (n : Nat) (h1 : 1 ≤ n) (h2 : n ≤ 16) (V : Value) (N : Nat) (S : Nat → Sp) (hV : Sc w V N S) : Calls Try.prog 4 #[.int .i64 n, V] w fun e w' => e = .returned (.bool true) ∧ Kp w w' [] := by
  obtain ⟨so, sc, rfl⟩ := hV.shape
  have HV := hid hV
  have c1 := P.new_ok w n h1 h2
  have C2 := hid (fun W => rnew_ok W n h1 h2)
  clear hV
  go_enter Try.func4, Try.ntmps4
  go_wp2_with fail
  refine c1.mono ?_
  rintro e w1 ⟨⟨gb, rfl, hg0, hg⟩, k1⟩
  have H1 := hid (And.intro hg0 (And.intro hg k1))
  clear k1 hg hg0 c1
  go_wp2_with fail
  refine (C2.out w1).mono ?_
  rintro e w2 ⟨rfl, hr, k2⟩
  have D0 := hid (show Pl Gr w w2 gb w1.heap.size (newG n) ∧ (newG n).n = n from ⟨⟨P.still H1.out.2.1 k2, hr, H1.out.1, H1.out.2.2.size, H1.out.2.2.trans k2⟩, rfl⟩)
  obtain ⟨rb, hrb⟩ : ∃ rb, w1.heap.size = rb := ⟨_, rfl⟩
  rw [hrb] at D0
  clear hr k2 H1
  by_cases hN : N ≤ 100
  · have hNI : ¬ (100 : Int) < N := by omega
    go_wp2_with fail
    clear hrb
    go_loopw [8] (fun vi W => ∃ (i : Nat) (G : Gs), i ≤ N ∧ vi = .int .i64 i ∧ Hid (Pl Gr w W gb rb G ∧ G.n = n)) (fun vi _ => N - (intOf vi).toNat)
    case atStart => exact ⟨0, _, by omega, rfl, D0⟩
    case round =>
      obtain ⟨i, G, hi, rfl, hT⟩ := hrel
      clear D0
      by_cases hin : i < N
      · have hx : (i : Int) < N := by omega
        obtain ⟨sb, off, rfl, y0, y1, y2⟩ := (HV.out.keep hT.out.1.kp).at hin
        go_wp2_with fail
        refine (hT.out.1.step P (S i).k (S i).t (S i).p).mono ?_
        rintro e W3 ⟨rfl, hT2, -⟩
        have T2 := hid (And.intro hT2 ((step_n G (S i).k (S i).t (S i).p).trans hT.out.2))
        clear hT2 hT y0 y1 y2
        go_wp2
        go_roundw
        case rel => exact ⟨i + 1, _, by omega, by simp, T2⟩
        case measure => simp [intOf]; omega
      · have hx : ¬ (i : Int) < N := by omega
        have HT := hid hT.out.1
        have HN := hid hT.out.2
        have ca := P.all wr gb G HT.out.gr
        clear hT hin
        go_wp2_with fail
        refine ca.mono ?_
        rintro e W4 ⟨⟨v, rfl, L, hE, hL⟩, k4⟩
        obtain ⟨ao, cap, hv⟩ := hL.slice
        have hll : L.length = n := by rw [hE.len, HN.out]
        rw [hll] at hv
        subst hv
        obtain ⟨gl, hgl, -, -⟩ := hL.at (k := 0) (by omega) rfl
        subst hgl
        have E0 := hid (show Le Gr w W4 gb rb G gl n cap L from ⟨P.still HT.out.gr k4, HT.out.rr.same k4, hL.low (Nat.zero_le _), HT.out.kp.trans k4⟩)
        have HE := hid hE
        have HLL := hid hll
        have HGO := hid (P.ok HT.out.gr)
        have HNN := HN
        clear ca hE hL k4 hll HT
        go_wp2_with fail
        go_loopw [10] (fun vt W => ∃ (t : Nat), t ≤ n ∧ vt = .int .i64 t ∧ Hid (Le Gr w W gb rb G gl n cap L)) (fun vt _ => n - (intOf vt).toNat)
        case atStart => exact ⟨0, by omega, rfl, E0⟩
        case round =>
          obtain ⟨t, ht, rfl, hM⟩ := hrel
          clear E0
          by_cases hlt : t < n
          · have hltI : (t : Int) < n := by omega
            have htL : t < L.length := by have := HLL.out; omega
            have ct := hM.out.at htL
            have cb := hM.out.rr.b (t := t) (by omega)
            have cc := hM.out.rr.c (t := t) (by omega)
            have so := (HE.out.sol t (by rw [HN.out]; exact hlt))
            obtain ⟨y, hy⟩ : ∃ y, L[t]! = y := ⟨_, rfl⟩
            obtain ⟨xb, hxb⟩ : ∃ x, G.b t = x := ⟨_, rfl⟩
            obtain ⟨xc, hxc⟩ : ∃ x, G.c t = x := ⟨_, rfl⟩
            have oy : xb ≤ y ∧ xc ≤ y := by
              have := so.1
              simp only [ownP, hxb, hxc, hy] at this
              omega
            rw [hy] at ct
            rw [hxb] at cb
            rw [hxc] at cc
            have d1 : decide (y < xb) = false := by simp; omega
            have d2 : decide (y < xc) = false := by simp; omega
            have HY := hid hy
            clear so oy hxb hxc hy
            go_wp2_with fail
            go_quiet (fail)
            have M1 := hid (hM.out.drewN P nq)
            obtain ⟨W5, hW5⟩ : ∃ W5, wr.drewN nq = W5 := ⟨_, rfl⟩
            rw [hW5] at M1 ⊢
            clear hM ct cb cc d1 d2 hW5
            have cw := M1.out.rr.wt (t := t) (by omega)
            have ct := M1.out.at htL
            have hbx := HGO.out.wt t (by rw [HN.out]; exact hlt)
            have so := (HE.out.sol t (by rw [HN.out]; exact hlt)).2
            rw [HN.out] at hbx
            obtain ⟨x, hx⟩ : ∃ x, G.w t = x := ⟨_, rfl⟩
            rw [hx] at cw hbx so
            rw [HY.out] at ct
            have HX := hid hx
            clear hx
            refine (Classical.em (0 ≤ x)).elim (fun hx0 => ?ja) (fun hx0 => ?nein)
            case' ja =>
              obtain ⟨u, rfl⟩ : ∃ u : Nat, x = u := ⟨x.toNat, by omega⟩
              have cu := M1.out.at (t := u) (by have := HLL.out; omega)
              have so2 := so (by omega)
              simp only [Int.toNat_natCast] at so2
              rw [HY.out] at so2
              obtain ⟨z, hz⟩ : ∃ z, L[u]! = z := ⟨_, rfl⟩
              rw [hz] at cu so2
              have d1 : decide (z < y) = false := by simp; omega
              have M2 := hid (fun nq => M1.out.drewN P nq)
              clear so so2 hz M1
              go_wp2_with fail
              go_quiet (fail)
              have M2 := hid (M2.out nq)
              obtain ⟨W6, hW6⟩ : ∃ W6, W5.drewN nq = W6 := ⟨_, rfl⟩
              rw [hW6] at M2 ⊢
              clear hW6 cu d1
            case' nein =>
              have d1 : decide (0 ≤ x) = false := by simp; omega
              have M2 := hid (fun nq => M1.out.drewN P nq)
              clear so M1
              go_wp2_with fail
              go_quiet (fail)
              have M2 := hid (M2.out nq)
              obtain ⟨W6, hW6⟩ : ∃ W6, W5.drewN nq = W6 := ⟨_, rfl⟩
              rw [hW6] at M2 ⊢
              clear hW6 d1
            all_goals clear cw ct hx0 hbx
            all_goals (
              go_wp2_with fail
              go_loopw [12, 13] (fun vf vs W => ∃ (f : Bool) (s : Nat), s ≤ n ∧ vf = .bool f ∧ vs = .int .i64 s ∧ Hid (Le Gr w W gb rb G gl n cap L ∧ ∀ s', s' < s → Hit G y t s' → f = true)) (fun _ vs _ => n - (intOf vs).toNat)
              case atStart => exact ⟨false, 0, by omega, rfl, rfl, hid ⟨M2.out, fun s' hs' => by omega⟩⟩
              case round =>
                obtain ⟨f, s, hs, rfl, rfl, hS⟩ := hrel
                clear M2
                by_cases hsn : s < n
                · have hsI : (s : Int) < n := by omega
                  go_wp2_with fail
                  go_loopw [12, 14, 15] (fun vf va vk W => ∃ (f2 : Bool) (u : Int) (k : Nat), k ≤ n + 1 ∧ -1 ≤ u ∧ u < n ∧ vf = .bool f2 ∧ va = .int .i64 u ∧ vk = .int .i64 k ∧ Hid (Le Gr w W gb rb G gl n cap L ∧ u = it G.w k s ∧ (f = true → f2 = true) ∧ ∀ j, j < k → it G.w j s = (t : Int) → (G.b s = y ∨ G.c s = y) → f2 = true)) (fun _ _ vk _ => n + 1 - (intOf vk).toNat)
                  case atStart => exact ⟨f, s, 0, by omega, by omega, by omega, rfl, rfl, rfl, hid ⟨hS.out.1, rfl, fun q => q, fun j hj => by omega⟩⟩
                  case round =>
                    obtain ⟨f2, u, k, hk, hu0, hu1, rfl, rfl, rfl, hQ⟩ := hrel
                    by_cases hgo : k ≤ n ∧ 0 ≤ u
                    · have hkI : (k : Int) ≤ n := by omega
                      have huI : 0 ≤ u := hgo.2
                      obtain ⟨a, rfl⟩ : ∃ a : Nat, u = a := ⟨u.toNat, by omega⟩
                      have cb := hQ.out.1.rr.b (t := s) (by omega)
                      have cc := hQ.out.1.rr.c (t := s) (by omega)
                      have cw := hQ.out.1.rr.wt (t := a) (by omega)
                      have ct := hQ.out.1.at htL
                      rw [HY.out] at ct
                      have hbx2 := HGO.out.wt a (by rw [HN.out]; omega)
                      rw [HN.out] at hbx2
                      obtain ⟨zb, hzb⟩ : ∃ x, G.b s = x := ⟨_, rfl⟩
                      obtain ⟨zc, hzc⟩ : ∃ x, G.c s = x := ⟨_, rfl⟩
                      obtain ⟨x2, hx2⟩ : ∃ x, G.w a = x := ⟨_, rfl⟩
                      have HX2 := hid (show x2 = it G.w (k + 1) s from by rw [it_next hQ.out.2.1.symm, hx2])
                      have HZB := hid hzb
                      have HZC := hid hzc
                      rw [hzb] at cb
                      rw [hzc] at cc
                      rw [hx2] at cw hbx2
                      clear hgo hzb hzc hx2
                      by_cases hat : (a : Int) = t
                      · have q1 : ((a : Int) == (t : Int)) = true := by simp [hat]
                        by_cases hb : zb = y
                        · have q2 : (zb == y) = true := by simp [hb]
                          have R2 := hid (show ∀ nq, Le Gr w (wr.drewN nq) gb rb G gl n cap L ∧ x2 = it G.w (k + 1) s ∧ (f = true → true = true) ∧ ∀ j, j < k + 1 → it G.w j s = (t : Int) → (G.b s = y ∨ G.c s = y) → true = true from fun nq => ⟨hQ.out.1.drewN P nq, HX2.out, fun _ => rfl, fun _ _ _ _ => rfl⟩)
                          clear hQ hat hb
                          go_wp2_with fail
                          go_quiet (fail)
                          go_wp2_with fail
                          go_roundw
                          case rel => exact ⟨true, x2, k + 1, by omega, hbx2.1, hbx2.2, rfl, rfl, by simp, hid ⟨(R2.out nq).1, (R2.out nq).2.1, fun _ => rfl, fun _ _ _ _ => rfl⟩⟩
                          case measure => simp [intOf]; omega
                        · have q2 : (zb == y) = false := by simp [hb]
                          by_cases hc : zc = y
                          · have q3 : (zc == y) = true := by simp [hc]
                            have R2 := hid (show ∀ nq, Le Gr w (wr.drewN nq) gb rb G gl n cap L ∧ x2 = it G.w (k + 1) s ∧ (f = true → true = true) ∧ ∀ j, j < k + 1 → it G.w j s = (t : Int) → (G.b s = y ∨ G.c s = y) → true = true from fun nq => ⟨hQ.out.1.drewN P nq, HX2.out, fun _ => rfl, fun _ _ _ _ => rfl⟩)
                            clear hQ hat hb hc
                            go_wp2_with fail
                            go_quiet (fail)
                            go_wp2_with fail
                            go_roundw
                            case rel => exact ⟨true, x2, k + 1, by omega, hbx2.1, hbx2.2, rfl, rfl, by simp, hid ⟨(R2.out nq).1, (R2.out nq).2.1, fun _ => rfl, fun _ _ _ _ => rfl⟩⟩
                            case measure => simp [intOf]; omega
                          · have q3 : (zc == y) = false := by simp [hc]
                            have R2 := hid (show ∀ nq, Le Gr w (wr.drewN nq) gb rb G gl n cap L ∧ x2 = it G.w (k + 1) s ∧ (f = true → f2 = true) ∧ ∀ j, j < k + 1 → it G.w j s = (t : Int) → (G.b s = y ∨ G.c s = y) → f2 = true from fun nq => ⟨hQ.out.1.drewN P nq, HX2.out, hQ.out.2.2.1, fun j _ _ q => by
                              rw [HZB.out, HZC.out] at q
                              omega⟩)
                            clear hQ hat hb hc
                            go_wp2_with fail
                            go_quiet (fail)
                            go_wp2_with fail
                            go_roundw
                            case rel => exact ⟨f2, x2, k + 1, by omega, hbx2.1, hbx2.2, rfl, rfl, by simp, hid (R2.out _)⟩
                            case measure => simp [intOf]; omega
                      · have q1 : ((a : Int) == (t : Int)) = false := by simp; omega
                        have R2 := hid (show ∀ nq, Le Gr w (wr.drewN nq) gb rb G gl n cap L ∧ x2 = it G.w (k + 1) s ∧ (f = true → f2 = true) ∧ ∀ j, j < k + 1 → it G.w j s = (t : Int) → (G.b s = y ∨ G.c s = y) → f2 = true from fun nq => ⟨hQ.out.1.drewN P nq, HX2.out, hQ.out.2.2.1, fun j hj e q => by
                          by_cases ej : j = k
                          · rw [ej, ← hQ.out.2.1] at e
                            exact absurd e hat
                          · exact hQ.out.2.2.2 j (by omega) e q⟩)
                        clear hQ hat
                        go_wp2_with fail
                        go_quiet (fail)
                        go_wp2_with fail
                        go_roundw
                        case rel => exact ⟨f2, x2, k + 1, by omega, hbx2.1, hbx2.2, rfl, rfl, by simp, hid (R2.out _)⟩
                        case measure => simp [intOf]; omega
                    · have R2 := hid (show Le Gr w wr gb rb G gl n cap L ∧ ∀ s', s' < s + 1 → Hit G y t s' → f2 = true from ⟨hQ.out.1, fun s' hs' hh => by
                        by_cases es : s' = s
                        · subst es
                          obtain ⟨j, hj, e, q⟩ := hh
                          by_cases ejk : j < k
                          · exact hQ.out.2.2.2 j ejk e q
                          · exfalso
                            rw [HN.out] at hj
                            have hu : u < 0 := by omega
                            have := it_neg (w := G.w) (s := s') (k := k) (by rw [← hQ.out.2.1]; exact hu) j (by omega)
                            omega
                        · exact hQ.out.2.2.1 (hS.out.2 s' (by omega) hh)⟩)
                      clear hQ hS
                      by_cases hkn : k ≤ n
                      · have hkI : (k : Int) ≤ n := by omega
                        have huI : ¬ 0 ≤ u := by omega
                        clear hgo
                        go_wp2_with fail
                        go_roundw
                        case rel => exact ⟨f2, s + 1, by omega, rfl, by simp, R2⟩
                        case measure => simp [intOf]; omega
                      · have hkI : ¬ (k : Int) ≤ n := by omega
                        clear hgo
                        go_wp2_with fail
                        go_roundw
                        case rel => exact ⟨f2, s + 1, by omega, rfl, by simp, R2⟩
                        case measure => simp [intOf]; omega
                · have hsI : ¬ (s : Int) < n := by omega
                  have hf : f = true := by
                    obtain ⟨s', hs', hh⟩ := HE.out.hit HGO.out (t := t) (by rw [HN.out]; exact hlt)
                    rw [HY.out] at hh
                    exact hS.out.2 s' (by rw [HN.out] at hs'; omega) hh
                  subst hf
                  have M3 := hid hS.out.1
                  have cr := P.ring wr gb G t M3.out.gr
                  clear hS hs hsn
                  go_wp2_with fail
                  refine cr.mono ?_
                  rintro e W7 ⟨⟨v, b, rfl, R, hR, hNs⟩, k7⟩
                  obtain ⟨ro, rc, hv⟩ := hNs.slice
                  obtain ⟨m, hm⟩ : ∃ m, R.length = m := ⟨_, rfl⟩
                  rw [hm] at hv
                  subst hv
                  have M4 := hid (show Le Gr w W7 gb rb G gl n cap L ∧ Ns W7 0 (.slice ro m rc) R from ⟨M3.out.same P k7, hNs.low (Nat.zero_le _)⟩)
                  have HRG := hid (fun j (hj : j < R.length) => Rg.at HGO.out HE.out (show t < G.n by rw [HN.out]; exact hlt) (hR.1 ⟨by omega, by rw [HN.out]; omega⟩) hj)
                  have HM := hid hm
                  have hml : m ≤ 16 := by
                    have q := hR.1 ⟨by omega, by rw [HN.out]; omega⟩
                    rw [Int.toNat_natCast] at q
                    rcases q with ⟨-, q⟩ | ⟨-, q, -⟩
                    · have := q.le HGO.out (by rw [HN.out]; exact hlt)
                      rw [HN.out] at this
                      omega
                    · rw [q] at hm
                      simp at hm
                      omega
                  clear cr hR hNs k7 hm M3
                  go_wp2_with fail
                  go_loopw [18] (fun vj W => ∃ (j : Nat), j ≤ m ∧ vj = .int .i64 j ∧ Hid (Le Gr w W gb rb G gl n cap L ∧ Ns W 0 (.slice ro m rc) R)) (fun vj _ => m - (intOf vj).toNat)
                  case atStart => exact ⟨0, by omega, rfl, M4⟩
                  case round =>
                    obtain ⟨j, hj, rfl, hZ⟩ := hrel
                    clear M4
                    by_cases hjm : j < m
                    · have hjI : (j : Int) < m := by omega
                      have hjR : j < R.length := by have := HM.out; omega
                      obtain ⟨hb, r0, r1, r2⟩ := HRG.out j hjR
                      subst hb
                      obtain ⟨z, hz⟩ : ∃ z, R[j]! = z := ⟨_, rfl⟩
                      obtain ⟨rg, hro, cj, -⟩ := hZ.out.2.at hjR hz
                      subst hro
                      rw [hz] at r0 r1 r2
                      rw [HN.out] at r1
                      obtain ⟨zu, rfl⟩ : ∃ zu : Nat, z = zu := ⟨z.toNat, by omega⟩
                      rw [Int.toNat_natCast, HY.out] at r2
                      have cz := hZ.out.1.at (t := zu) (by have := HLL.out; omega)
                      rw [r2] at cz
                      have ct := hZ.out.1.at htL
                      rw [HY.out] at ct
                      have hzz : ((zu : Int)) < n := r1
                      have d1 : decide ((zu : Int) < 0) = false := by simp
                      have d2 : decide ((n : Int) ≤ (zu : Int)) = false := by simp; omega
                      have d3 : (y != y) = false := by simp
                      have d4 : decide (n ≤ zu) = false := by simp; omega
                      have d5 : zu < n := by omega
                      have Z2 := hid (fun nq => show Le Gr w (wr.drewN nq) gb rb G gl n cap L ∧ Ns (wr.drewN nq) 0 (.slice (some ⟨rg, 0, none⟩) m rc) R from ⟨hZ.out.1.drewN P nq, hZ.out.2.keep (Kp.drewN _ _ _)⟩)
                      clear hZ r2 hz
                      go_wp2_with fail
                      go_quiet (fail)
                      go_wp2_with fail
                      go_roundw
                      case rel => exact ⟨j + 1, by omega, by simp, hid (Z2.out _)⟩
                      case measure => simp [intOf]; omega
                    · have hjI : ¬ (j : Int) < m := by omega
                      have Z2 := hid hZ.out.1
                      clear hZ
                      go_wp2_with fail
                      go_roundw
                      case rel => exact ⟨t + 1, by omega, by simp, Z2⟩
                      case measure => simp [intOf]; omega)
          · have hltI : ¬ (t : Int) < n := by omega
            have K6 := hid hM.out.kp
            clear hM
            go_wp2_with fail
            refine (kn _).mono ?_
            rintro e W7 ⟨rfl, k7⟩
            have K7 := hid (K6.out.trans k7)
            clear k7 K6
            go_wp2
            go_ret
            exact ⟨rfl, K7.out⟩
  · have hNI : (100 : Int) < N := by omega
    have K6 := hid D0.out.1.kp
    clear D0
    go_wp2_with fail
    refine (kn _).mono ?_
    rintro e W7 ⟨rfl, k7⟩
    have K7 := hid (K6.out.trans k7)
    clear k7 K6
    go_wp2
    go_ret
    exact ⟨rfl, K7.out⟩
theorem least_walk (P : Prg Gr) (kn : KnownOk) (w : World) (k : Int) (V : Value) (N : Nat) (S : Nat → Sp) (hV : Sc w V N S) : Calls Try.prog 4 #[.int .i64 k, V] w fun e w' => e = .returned (.bool true) ∧ Kp w w' [] := by
  by_cases hk : 1 ≤ k ∧ k ≤ 16
  · obtain ⟨n, rfl⟩ : ∃ n : Nat, k = n := ⟨k.toNat, by omega⟩
    exact least_ok P kn w n (by omega) (by omega) V N S hV
  · exact least_no P kn w k V N S hV hk
end
end Go.Proofs.Ytomdnppnabncaaa
