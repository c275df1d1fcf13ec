/- The reference: Realloc, where the piece goes elsewhere, or where there is no room. -/
import Derived.Test.YtgefmnnkpffpcaaGreatDoorSallocJ
import Derived.Test.YtgefmnnkpffpcaaGreatDoorRgetJ
namespace Go.Proofs.YtgefmnnkpffpcaaGreatDoor
open Go.RowKit Go.Maps

/-- k bytes go from s on to d on. -/
def cpF (f : Nat → Nat) (d s k : Nat) : Nat → Nat := fun i => if d ≤ i ∧ i < d + k then f (i - d + s) else f i
theorem cpF_zero (f : Nat → Nat) (d s : Nat) : cpF f d s 0 = f := by
  funext i
  unfold cpF
  rw [if_neg (by omega)]
theorem cpF_at {f : Nat → Nat} {d s k : Nat} (h : ¬ (d ≤ s + k ∧ s + k < d + k)) : cpF f d s k (s + k) = f (s + k) := by
  unfold cpF
  rw [if_neg h]
theorem cpF_step {f : Nat → Nat} {d s k : Nat} : putF (cpF f d s k) (d + k) (f (s + k)) = cpF f d s (k + 1) := by
  funext i
  unfold putF cpF
  by_cases e : i = d + k
  · rw [if_pos e, if_pos (by omega), show i - d + s = s + k by omega]
  · rw [if_neg e]
    by_cases q : d ≤ i ∧ i < d + k
    · rw [if_pos q, if_pos (by omega)]
    · rw [if_neg q, if_neg (by omega)]
/-- The block behind does not serve. -/
def NoB (z m : Int) (r : List Bl) : Prop := r = [] ∨ (∃ b t r', r = (b, t, false) :: r') ∨ ∃ b t r', r = (b, t, true) :: r' ∧ z + t < m
set_option maxRecDepth 100000 in
set_option maxHeartbeats 2000000 in
theorem rReal_full (w : World) (hb : Nat) (V mv : Value) (G : Nat → Value) (A r : List Bl) (F : Nat → List Int) (n a z : Int) (h : Rh w hb V G mv (A ++ (a, z, false) :: r) F) (hl : (A ++ (a, z, false) :: r).length ≤ 10000) (h16 : ∀ x ∈ A ++ (a, z, false) :: r, 16 ≤ x.2.1) (hs : szs (A ++ (a, z, false) :: r) + 32 < 65536) (hm : mayB n = true) (ha : 0 ≤ a) (ha2 : a ≤ 1000000) (hu : ∀ j, j < (A ++ (a, z, false) :: r).length → (A ++ (a, z, false) :: r)[j]!.1 = a → j = A.length) (hz : z < needed n) (hx : NoB z (needed n) r)
    (hF : ∀ c, (clsFor (needed n)).toNat ≤ c → c < 32 → F c = []) :
    Calls Tryz.prog 40 #[.pointer (some ⟨hb, 0, none⟩), .int .i64 (a + 8), .int .i64 n] w fun e w' => e = .returned (.tuple #[.int .i64 0, .int .i64 5]) ∧ Kp w w' [] := by
  obtain ⟨n1, n2, n3, n4⟩ := needed_bd hm
  have HM := hid (rmay_any w n)
  rw [hm] at HM
  have HN := hid (rneed_any w n n1 n2)
  have e8 : a + 8 - 8 = a := by omega
  have HP := hid (rpiece_yes (o := a + 8) (z := z) (i := A.length) h (by omega) (by omega) (by omega) (by simp) (by rw [e8]; exact mid_at _ _ _) (by rw [e8]; exact hu))
  have hz16 : 16 ≤ z := h16 (a, z, false) (by simp)
  have hzb : z < 65536 := by
    have q1 := szs_nn A fun y hy => h16 y (by simp [hy])
    have q2 := szs_nn r fun y hy => h16 y (by simp [hy])
    rw [szs_app, szs_cons] at hs
    simp only at hs
    omega
  have htb : ∀ b t f r', r = (b, t, f) :: r' → 16 ≤ t ∧ t < 65536 := fun b t f r' e => by
    subst e
    have q0 := h16 (b, t, f) (by simp)
    have q1 := szs_nn A fun y hy => h16 y (by simp [hy])
    have q2 := szs_nn r' fun y hy => h16 y (by simp [hy])
    rw [szs_app, szs_cons, szs_cons] at hs
    simp only at hs q0
    omega
  obtain ⟨i, hi⟩ : ∃ i, A.length = i := ⟨_, rfl⟩
  obtain ⟨i1, hi1⟩ : ∃ i1, i + 1 = i1 := ⟨_, rfl⟩
  have hil : i < 10000 := by simp at hl; omega
  have cc := h.b
  obtain ⟨ao, cap, hV⟩ := h.row.slice
  obtain ⟨g, hg, c1, c2, -, -, -, -⟩ := (hV ▸ h.row).at (k := i) (by simp; omega) (show (A ++ (a, z, false) :: r)[i]! = (a, z, false) by rw [← hi]; exact mid_at _ _ _)
  subst hg
  obtain ⟨N, hN⟩ : ∃ N, (A ++ (a, z, false) :: r).length = N := ⟨_, rfl⟩
  have hiN : (i : Int) < N := by rw [← hN]; simp; omega
  rw [hV, hN] at cc
  rw [hi] at HP
  have hw1 : IntKind.i64.wrap ((i : Int) + 1) = (i1 : Int) := by rw [← hi1]; exact IntWalk.i64_in _ ⟨by omega, by omega⟩
  have hws : IntKind.i64.wrap (z - 8) = z - 8 := IntWalk.i64_in _ ⟨by omega, by omega⟩
  have H := hid h
  have HI := hid (And.intro hi hi1)
  have HA := hid (fun (w2 : World) (k : Kp w w2 []) => rAlloc_none (H.out.same k) hm hF)
  obtain ⟨m, hmn⟩ : ∃ m, needed n = m := ⟨_, rfl⟩
  rw [hmn] at n3 n4 HN hz hx
  have hzd : decide (z < m) = true := decide_eq_true hz
  have hzd2 : decide (m ≤ z) = false := decide_eq_false (by omega)
  have ARM : (decide ((i1 : Int) < N) = false ∧ decide (i1 < N) = false) ∨ (decide ((i1 : Int) < N) = true ∧ (i1 : Int) < N ∧ w.cell? ⟨g, i1 * 3 + 2, none⟩ = some (.bool false)) ∨ (∃ t, decide ((i1 : Int) < N) = true ∧ (i1 : Int) < N ∧ w.cell? ⟨g, i1 * 3 + 2, none⟩ = some (.bool true) ∧ w.cell? ⟨g, i1 * 3 + 1, none⟩ = some (.int .i64 t) ∧ IntKind.i64.wrap (z + t) = z + t ∧ decide (m ≤ z + t) = false) := by
    rcases hx with e | ⟨b, t, r', e⟩ | ⟨b, t, r', e, hlt⟩
    · left
      subst e
      have : ¬ i1 < N := by rw [← hN]; simp; omega
      exact ⟨decide_eq_false (by omega), decide_eq_false this⟩
    · right; left
      have e2 : (A ++ (a, z, false) :: r)[i1]! = (b, t, false) := by rw [e, ← hi1, ← hi]; exact mid_next _ _ _ _
      have hlt : i1 < (A ++ (a, z, false) :: r).length := by rw [e]; simp; omega
      obtain ⟨g', hg', -, -, d3, -, -, -⟩ := (hV ▸ h.row).at (k := i1) hlt e2
      cases hg'
      have : (i1 : Int) < N := by omega
      exact ⟨decide_eq_true this, this, d3⟩
    · right; right
      have e2 : (A ++ (a, z, false) :: r)[i1]! = (b, t, true) := by rw [e, ← hi1, ← hi]; exact mid_next _ _ _ _
      have hl2 : i1 < (A ++ (a, z, false) :: r).length := by rw [e]; simp; omega
      obtain ⟨g', hg', -, d2, d3, -, -, -⟩ := (hV ▸ h.row).at (k := i1) hl2 e2
      cases hg'
      have : (i1 : Int) < N := by omega
      have tb := htb _ _ _ _ e
      exact ⟨t, decide_eq_true this, this, d3, d2, IntWalk.i64_in _ ⟨by omega, by omega⟩, decide_eq_false (by omega)⟩
  clear h hl h16 hs hm hF hu e8 hi hi1 hN hmn hx htb hV
  go_enter Tryz.func40, Tryz.ntmps40
  go_wp2_with fail
  refine HM.out.mono ?_
  rintro e w1 ⟨rfl, rfl⟩
  go_wp2_with fail
  refine HP.out.mono ?_
  rintro e w1 ⟨rfl, rfl⟩
  go_wp2_with fail
  refine HN.out.mono ?_
  rintro e w1 ⟨rfl, rfl⟩
  go_wp2_with fail
  rcases ARM with ⟨hid1, hidn⟩ | ⟨hid1, hi1N, d3⟩ | ⟨t, hid1, hi1N, d3, d2, hwz, hztd⟩
  all_goals (
    go_quiet (fail)
    have KQ := hid (kp_drewN w1 nq [])
    go_wp2_with fail
    refine (HA.out _ KQ.out).mono ?_
    rintro e w2 ⟨rfl, rfl⟩
    go_wp2
    go_ret2
    exact ⟨rfl, KQ.out⟩)
set_option maxRecDepth 100000 in
set_option maxHeartbeats 4000000 in
theorem rReal_move (w : World) (hb eb nn : Nat) (V : Value) (G : Nat → Value) (A r A' r' A1 r1 : List Bl) (F : Nat → List Int) (f : Nat → Nat) (n a z b s : Int) (l : List Int) (D S : Nat) (h : Rh w hb V G (mslice eb nn) (A ++ (a, z, false) :: r) F) (hM : Mb w eb nn f) (hl : (A ++ (a, z, false) :: r).length ≤ 9000) (h16 : ∀ x ∈ A ++ (a, z, false) :: r, 16 ≤ x.2.1) (hs : szs (A ++ (a, z, false) :: r) + 32 < 65536) (hm : mayB n = true) (ha : 0 ≤ a) (ha2 : a ≤ 1000000) (hu : ∀ j, j < (A ++ (a, z, false) :: r).length → (A ++ (a, z, false) :: r)[j]!.1 = a → j = A.length) (hz : z < needed n) (hx : NoB z (needed n) r)
    (hL : A ++ (a, z, false) :: r = A' ++ (b, s, true) :: r') (hF : ∀ c, (clsFor (needed n)).toNat ≤ c → c < kl s → F c = []) (hs1 : 16 ≤ s) (hs2 : s < 65536) (hle : (clsFor (needed n)).toNat ≤ kl s) (hFl : F (kl s) = b :: l) (hll : ∀ c, (F c).length ≤ 9000) (hu2 : ∀ j, j < (A' ++ (b, s, true) :: r').length → (A' ++ (b, s, true) :: r')[j]!.1 = b → j = A'.length) (hb0 : 0 ≤ b) (hb2 : b ≤ 1000000)
    (hL1 : (giveR A' b s (needed n) r' (rmF F (kl s) b)).1 = A1 ++ (a, z, false) :: r1) (hl1 : (A1 ++ (a, z, false) :: r1).length ≤ 10000) (h161 : ∀ x ∈ A1 ++ (a, z, false) :: r1, 16 ≤ x.2.1) (hss1 : szs (A1 ++ (a, z, false) :: r1) + 32 < 65536) (hu1 : ∀ j, j < (A1 ++ (a, z, false) :: r1).length → (A1 ++ (a, z, false) :: r1)[j]!.1 = a → j = A1.length)
    (hF1 : ∀ c, ((giveR A' b s (needed n) r' (rmF F (kl s) b)).2 c).length ≤ 10000) (hD : (D : Int) = b + 8) (hS : (S : Int) = a + 8) (hDn : D + (z - 8).toNat ≤ nn) (hSn : S + (z - 8).toNat ≤ nn) (hnn : nn ≤ 65536) (hap : ∀ j, j < (z - 8).toNat → ¬ (D ≤ S + j ∧ S + j < D + (z - 8).toNat)) :
    Calls Tryz.prog 40 #[.pointer (some ⟨hb, 0, none⟩), .int .i64 (a + 8), .int .i64 n] w fun e w' => e = .returned (.tuple #[.int .i64 (b + 8), .int .i64 0]) ∧ Rm w w' hb eb nn V G (freedX A1 a z r1 (giveR A' b s (needed n) r' (rmF F (kl s) b)).2).1 (freedX A1 a z r1 (giveR A' b s (needed n) r' (rmF F (kl s) b)).2).2 (cpF f D S (z - 8).toNat) := by
  obtain ⟨n1, n2, n3, n4⟩ := needed_bd hm
  have HM := hid (rmay_any w n)
  rw [hm] at HM
  have HN := hid (rneed_any w n n1 n2)
  have e8 : a + 8 - 8 = a := by omega
  have HP := hid (rpiece_yes (o := a + 8) (z := z) (i := A.length) h (by omega) (by omega) (by omega) (by simp) (by rw [e8]; exact mid_at _ _ _) (by rw [e8]; exact hu))
  have hz16 : 16 ≤ z := h16 (a, z, false) (by simp)
  have hzb : z < 65536 := by
    have q1 := szs_nn A fun y hy => h16 y (by simp [hy])
    have q2 := szs_nn r fun y hy => h16 y (by simp [hy])
    rw [szs_app, szs_cons] at hs
    simp only at hs
    omega
  have htb : ∀ b t f r', r = (b, t, f) :: r' → 16 ≤ t ∧ t < 65536 := fun b t f r' e => by
    subst e
    have q0 := h16 (b, t, f) (by simp)
    have q1 := szs_nn A fun y hy => h16 y (by simp [hy])
    have q2 := szs_nn r' fun y hy => h16 y (by simp [hy])
    rw [szs_app, szs_cons, szs_cons] at hs
    simp only at hs q0
    omega
  obtain ⟨i, hi⟩ : ∃ i, A.length = i := ⟨_, rfl⟩
  obtain ⟨i1, hi1⟩ : ∃ i1, i + 1 = i1 := ⟨_, rfl⟩
  have hil : i < 10000 := by simp at hl; omega
  have cc := h.b
  obtain ⟨ao, cap, hV⟩ := h.row.slice
  obtain ⟨g, hg, c1, c2, -, -, -, -⟩ := (hV ▸ h.row).at (k := i) (by simp; omega) (show (A ++ (a, z, false) :: r)[i]! = (a, z, false) by rw [← hi]; exact mid_at _ _ _)
  subst hg
  obtain ⟨N, hN⟩ : ∃ N, (A ++ (a, z, false) :: r).length = N := ⟨_, rfl⟩
  have hiN : (i : Int) < N := by rw [← hN]; simp; omega
  rw [hV, hN] at cc
  rw [hi] at HP
  have hw1 : IntKind.i64.wrap ((i : Int) + 1) = (i1 : Int) := by rw [← hi1]; exact IntWalk.i64_in _ ⟨by omega, by omega⟩
  have hws : IntKind.i64.wrap (z - 8) = z - 8 := IntWalk.i64_in _ ⟨by omega, by omega⟩
  have H := hid h
  have HI := hid (And.intro hi hi1)
  have HA := hid (fun (w2 : World) (k : Kp w w2 []) => rAlloc_some w2 hb V (mslice eb nn) G A' r' F n b s l (by have := H.out.same k; rw [hL] at this; exact this) (by rw [← hL]; omega) hm hF hs1 hs2 hle hFl (fun c => by have := hll c; omega) hu2 hb0 hb2)
  obtain ⟨F1, hF1e⟩ : ∃ F1, (giveR A' b s (needed n) r' (rmF F (kl s) b)).2 = F1 := ⟨_, rfl⟩
  rw [hL1, hF1e] at HA
  rw [hF1e] at hF1 ⊢
  have HMB := hid hM
  have HY := hid (And.intro hl1 (And.intro h161 (And.intro hss1 (And.intro hu1 hF1))))
  have HAP := hid hap
  obtain ⟨m, hmn⟩ : ∃ m, needed n = m := ⟨_, rfl⟩
  rw [hmn] at n3 n4 HN hz hx
  have hzd : decide (z < m) = true := decide_eq_true hz
  have hzd2 : decide (m ≤ z) = false := decide_eq_false (by omega)
  have ARM : (decide ((i1 : Int) < N) = false ∧ decide (i1 < N) = false) ∨ (decide ((i1 : Int) < N) = true ∧ (i1 : Int) < N ∧ w.cell? ⟨g, i1 * 3 + 2, none⟩ = some (.bool false)) ∨ (∃ t, decide ((i1 : Int) < N) = true ∧ (i1 : Int) < N ∧ w.cell? ⟨g, i1 * 3 + 2, none⟩ = some (.bool true) ∧ w.cell? ⟨g, i1 * 3 + 1, none⟩ = some (.int .i64 t) ∧ IntKind.i64.wrap (z + t) = z + t ∧ decide (m ≤ z + t) = false) := by
    rcases hx with e | ⟨b, t, r', e⟩ | ⟨b, t, r', e, hlt⟩
    · left
      subst e
      have : ¬ i1 < N := by rw [← hN]; simp; omega
      exact ⟨decide_eq_false (by omega), decide_eq_false this⟩
    · right; left
      have e2 : (A ++ (a, z, false) :: r)[i1]! = (b, t, false) := by rw [e, ← hi1, ← hi]; exact mid_next _ _ _ _
      have hlt : i1 < (A ++ (a, z, false) :: r).length := by rw [e]; simp; omega
      obtain ⟨g', hg', -, -, d3, -, -, -⟩ := (hV ▸ h.row).at (k := i1) hlt e2
      cases hg'
      have : (i1 : Int) < N := by omega
      exact ⟨decide_eq_true this, this, d3⟩
    · right; right
      have e2 : (A ++ (a, z, false) :: r)[i1]! = (b, t, true) := by rw [e, ← hi1, ← hi]; exact mid_next _ _ _ _
      have hl2 : i1 < (A ++ (a, z, false) :: r).length := by rw [e]; simp; omega
      obtain ⟨g', hg', -, d2, d3, -, -, -⟩ := (hV ▸ h.row).at (k := i1) hl2 e2
      cases hg'
      have : (i1 : Int) < N := by omega
      have tb := htb _ _ _ _ e
      exact ⟨t, decide_eq_true this, this, d3, d2, IntWalk.i64_in _ ⟨by omega, by omega⟩, decide_eq_false (by omega)⟩
  obtain ⟨K, hK⟩ : ∃ K : Nat, (z - 8).toNat = K := ⟨_, rfl⟩
  have hKz : z - 8 = (K : Int) := by omega
  rw [hK] at HAP hDn hSn ⊢
  have HKP := hid hKz
  have HDS := hid (And.intro hD hS)
  clear h hM hl h16 hs hm hF hu e8 hi hi1 hN hmn hx htb hV hL hle hFl hll hu2 hL1 hl1 h161 hss1 hu1 hF1 hF1e hap hK hs1 hs2
  go_enter Tryz.func40, Tryz.ntmps40
  go_wp2_with fail
  refine HM.out.mono ?_
  rintro e w1 ⟨rfl, rfl⟩
  go_wp2_with fail
  refine HP.out.mono ?_
  rintro e w1 ⟨rfl, rfl⟩
  go_wp2_with fail
  refine HN.out.mono ?_
  rintro e w1 ⟨rfl, rfl⟩
  go_wp2_with fail
  rcases ARM with ⟨hid1, hidn⟩ | ⟨hid1, hi1N, d3⟩ | ⟨t, hid1, hi1N, d3, d2, hwz, hztd⟩
  all_goals (
    go_quiet (fail)
    have KQ := hid (kp_drewN w1 nq [])
    go_wp2_with fail
    refine (HA.out _ KQ.out).mono ?_
    rintro e w2 ⟨rfl, hR2⟩
    obtain ⟨V2, G2, h2, m2, k2, v2⟩ := Rm.of (H.out.same KQ.out) (HMB.out.keep KQ.out (by simp)) hR2
    have H2 := hid h2
    have M2 := hid m2
    have P2 := hid (And.intro k2 v2)
    clear hR2 h2 m2 k2 v2 hid1
    go_wp2_with fail
    go_loopw [13] (fun vk wr => ∃ k : Nat, k ≤ K ∧ vk = .int .i64 k ∧ Hid (Mb wr eb nn (cpF f D S k)) ∧ Hid (Kp w2 wr [eb])) (fun vk _ => K - (intOf vk).toNat)
    case atStart => exact ⟨0, by omega, rfl, hid (by rw [cpF_zero]; exact M2.out), hid (Kp.refl _ _)⟩
    case round =>
      obtain ⟨k, hk, rfl, hMk, hKk⟩ := hrel
      rename_i wr
      by_cases hlt : k < K
      · have hltI : (k : Int) < K := by omega
        have cm := (H2.out.bytes M2.out hKk.out).m
        have hap : ¬ (D ≤ S + k ∧ S + k < D + k) := fun q => HAP.out k hlt ⟨q.1, by omega⟩
        obtain ⟨p, hp⟩ : ∃ p, S + k = p := ⟨_, rfl⟩
        obtain ⟨q, hq⟩ : ∃ q, D + k = q := ⟨_, rfl⟩
        have hpn : p < nn := by omega
        have hqn : q < nn := by omega
        have hpI : (p : Int) < nn := by omega
        have hqI : (q : Int) < nn := by omega
        have cb := hMk.out.at hpn
        have fb := hMk.out.free q
        have cq := hMk.out.at hqn
        generalize cpF f D S k q = yq at cq
        have e1 : cpF f D S k p = f p := by rw [← hp]; exact cpF_at hap
        rw [e1] at cb
        obtain ⟨y, hy⟩ : ∃ y, f p = y := ⟨_, rfl⟩
        rw [hy] at cb
        have hy8 : y < 256 := by rw [← hy]; exact HMB.out.by8 p
        have hwp : IntKind.i64.wrap (a + 8 + (k : Int)) = (p : Int) := by have := HDS.out.2; rw [show a + 8 + (k : Int) = (p : Int) by omega]; exact IntWalk.i64_in _ ⟨by omega, by omega⟩
        have hwq : IntKind.i64.wrap (b + 8 + (k : Int)) = (q : Int) := by have := HDS.out.1; rw [show b + 8 + (k : Int) = (q : Int) by omega]; exact IntWalk.i64_in _ ⟨by omega, by omega⟩
        have HN2 := hid (show Mb (World.drew (wr.setCell ⟨eb, q, none⟩ (.int .u8 (y : Int)))) eb nn (cpF f D S (k + 1)) from by
          have h1 := hMk.out.set hqn hy8
          rw [← hq, ← hy, ← hp, cpF_step, hp, hy, hq] at h1
          exact h1.keep (Kp.drew _ []) (by simp))
        have HK2 := hid (show Kp w2 (World.drew (wr.setCell ⟨eb, q, none⟩ (.int .u8 (y : Int)))) [eb] from (hKk.out.trans (Kp.setCell _ _ _)).trans (Kp.drew _ _))
        clear e1 hy hap hp hq
        go_wp2_with fail
        go_region
        go_wp2_with fail
        go_roundw
        case rel => exact ⟨k + 1, by omega, by simp, HN2, HK2⟩
        case measure => simp [intOf]; omega
      · have hltI : ¬ (k : Int) < K := by omega
        obtain rfl : k = K := by omega
        have h3 := hid (H2.out.bytes M2.out hKk.out)
        have HP3 := hid (rpiece_yes (o := a + 8) (z := z) (i := A1.length) h3.out (by have := HY.out.1; omega) (by omega) (by omega) (by simp) (by rw [show a + 8 - 8 = a by omega]; exact mid_at _ _ _) (by rw [show a + 8 - 8 = a by omega]; exact HY.out.2.2.2.1))
        obtain ⟨j, hj⟩ : ∃ j, A1.length = j := ⟨_, rfl⟩
        rw [hj] at HP3
        have HJ := hid hj
        clear hj hltI hlt
        go_wp2_with fail
        refine HP3.out.mono ?_
        rintro e w4 ⟨rfl, rfl⟩
        go_wp2_with fail
        refine (rfree_any w4 hb V2 (mslice eb nn) G2 A1 r1 F1 a z false j h3.out HJ.out.symm (by have := HY.out.1; omega) HY.out.2.1 HY.out.2.2.1 HY.out.2.2.2.2).mono ?_
        rintro e w5 ⟨rfl, hR⟩
        have HR := hid (Rm.past KQ.out.nil Nw.refl (Rm.past P2.out.1 P2.out.2 (Rm.past (hKk.out.mono (by intro x hx _; simp at hx; simp [hx])) Nw.refl (Rm.of h3.out hMk.out hR))))
        clear hR
        go_wp2
        go_ret2
        exact ⟨rfl, HR.out⟩)
end Go.Proofs.YtgefmnnkpffpcaaGreatDoor
