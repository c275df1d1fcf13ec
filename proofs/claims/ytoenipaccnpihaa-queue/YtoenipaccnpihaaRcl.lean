/- The reference's Clear. -/
import Derived.Test.YtoenipaccnpihaaRa
namespace Go.Proofs.Ytoenipaccnpihaa
open Go.RowKit Go.Shelf Go.Sort Go.Maps
open Go.Lib hiding intOf
attribute [local go_sem] Oper.semAt_some

theorem Rst.more {w w1 w2 : World} {rb T S : Nat} {M : Nat → Nat} {L : El} {Q : List Nat} (h : Rst w w1 rb Q T S M L) (hk : Kp w1 w2 []) : Rst w w2 rb Q T S M L := h.trans fun _ h1 => Rst.stay h1 hk
/-- What Clear answers. -/
def clN (T : Nat) (L : El) (t : Int) : Int := if inT T t then ((allV T L t).length : Nat) else 0
def clE (T : Nat) (t : Int) : Int := if inT T t then 0 else 2
def clM (T : Nat) (M : Nat → Nat) (t : Int) : Nat → Nat := if inT T t then upd M t.toNat 0 else M
set_option maxRecDepth 100000 in
theorem rclear_no (w : World) (rb : Nat) (Q : List Nat) (T S : Nat) (M : Nat → Nat) (L : El) (t : Int) (h : Rm w rb Q T S M L) (ht : inT T t = false) : Calls Try.prog 28 #[.pointer (some ⟨rb, 0, none⟩), .int .i64 t] w fun e w' => e = .returned (.tuple #[.int .i64 0, .int .i64 2]) ∧ w' = w := by
  obtain ⟨V, -, hc, he⟩ := h
  have HI := rin_any w rb T S M V t hc
  rw [ht] at HI
  have HI := hid HI
  clear hc he ht
  go_enter Try.func28, Try.ntmps28
  go_wp2_with fail
  refine HI.out.mono ?_
  rintro e w1 ⟨rfl, hw⟩; obtain rfl := hw.symm
  go_wp2
  go_ret2
  exact ⟨rfl, rfl⟩
set_option maxRecDepth 100000 in
set_option maxHeartbeats 2000000 in
theorem rclear_yes (w : World) (rb : Nat) (Q : List Nat) (T S : Nat) (M : Nat → Nat) (L : El) (t : Nat) (h : Rm w rb Q T S M L) (ht : t < T) (hT : T ≤ 16) (hok : Ok T S L) (hl : L.length ≤ 600) : Calls Try.prog 28 #[.pointer (some ⟨rb, 0, none⟩), .int .i64 t] w fun e w' => e = .returned (.tuple #[.int .i64 ((allV T L t).length : Nat), .int .i64 0]) ∧ Rst w w' rb Q T S (upd M t 0) (leftV T L t) := by
  obtain ⟨V, -, hc, he⟩ := id h
  have HI := rin_any w rb T S M V t hc
  rw [inT_nat, decide_eq_true ht] at HI
  have HI := hid HI
  have ht16 : t < 16 := by omega
  have ht16i : (t : Int) < 16 := by omega
  have H0 := hid (Rst.stay h (Kp.refl w []))
  have HO := hid hok
  have HL := hid hl
  clear hc he h ht hok hl
  go_enter Try.func28, Try.ntmps28
  go_wp2_with fail
  refine HI.out.mono ?_
  rintro e w1 ⟨rfl, hw⟩; obtain rfl := hw.symm
  go_wp2
  go_loopw [6] (fun v wr => ∃ (n : Nat) (Lk : El), v = .int .i64 n ∧ Hid (Rst w wr rb Q T S M Lk ∧ Ok T S Lk ∧ n + (allV T Lk t).length = (allV T L t).length ∧ leftV T Lk t = leftV T L t ∧ n + Lk.length = L.length)) (fun v _ => 600 - (intOf v).toNat)
  case atStart => exact ⟨0, L, rfl, hid ⟨H0.out, HO.out, by simp, rfl, by simp⟩⟩
  case round =>
    obtain ⟨n, Lk, rfl, hR⟩ := hrel
    obtain ⟨hst, hok, hct, hlf, hln⟩ := hR.out
    have HS := hid hst
    obtain ⟨Qk, hRm, hNk, hKk⟩ := hst
    have hlk : Lk.length ≤ 600 := by have := HL.out; omega
    have HX := rnext_any wr rb Qk T S M Lk t W32 hRm hok hlk (by decide)
    by_cases hn : nxN T Lk t W32 ≤ 31
    · obtain ⟨e1, e2, e3⟩ := allV_more hn
      have hokN := hok.nx t W32
      unfold nxV nxB at HX
      rw [if_pos hn, decide_eq_true hn] at HX
      unfold Sv at HX
      have HX := hid HX
      generalize nxL T Lk t W32 = Ln at HX e1 e2 e3 hokN
      rw [e1] at hct
      simp only [List.length_cons] at hct
      have HE := hid (show Ok T S Ln ∧ (n + 1) + (allV T Ln t).length = (allV T L t).length ∧ leftV T Ln t = leftV T L t ∧ (n + 1) + Ln.length = L.length from ⟨hokN, by omega, e2 ▸ hlf, by omega⟩)
      have hlt : n < 600 := by have := HL.out; omega
      have hwr : IntKind.i64.wrap ((n : Int) + 1) = (n : Int) + 1 := IntWalk.i64_in _ ⟨by omega, by omega⟩
      have HKQ := hid (And.intro hNk hKk)
      generalize nxN T Lk t W32 = m at HX
      generalize hdv Lk ((t : Int)).toNat m = v at HX
      clear hRm hn e1 e2 e3 hokN hlk hct hlf hln hok hNk hKk
      go_wp2_with fail
      refine HX.out.mono ?_
      rintro e w2 ⟨rfl, hst2⟩
      have F := hid (show Rst w (w2.alloc (.cells #[.int .i64 (m : Nat), .int .i64 v] 47)) rb Q T S M Ln from by
        obtain ⟨Q2, s2, n2, k2⟩ := hst2
        have : Rst w w2 rb Q T S M Ln := ⟨Q2, s2, HKQ.out.1.trans n2 HKQ.out.2.size, HKQ.out.2.trans k2⟩
        exact this.more (Kp.alloc _ _ _))
      clear hst2 HX
      go_wp2
      go_roundw
      case rel => exact ⟨n + 1, Ln, by simp, hid ⟨F.out, HE.out⟩⟩
      case measure => simp [intOf]; omega
    · obtain ⟨e1, e2⟩ := allV_end hn
      unfold nxV nxB nxL at HX
      rw [if_neg hn, if_neg hn, decide_eq_false hn] at HX
      unfold Sv at HX
      have HX := hid HX
      rw [e1] at hct
      rw [e2] at hlf
      have HE := hid (show n = (allV T L t).length ∧ Lk = leftV T L t from ⟨by simpa using hct, hlf⟩)
      have HKQ := hid (And.intro hNk hKk)
      clear hRm hn e1 e2 hlk hct hlf hln hok hNk hKk
      go_wp2_with fail
      refine HX.out.mono ?_
      rintro e w2 ⟨rfl, Q2, s2, n2, k2⟩
      have hs3 := s2.same (Kp.alloc w2 (.cells #[.int .i64 0, .int .i64 0] 47) [])
      obtain ⟨V2, hQ2, hc2, he2⟩ := id hs3
      have c0 := hc2.ms ht16
      have f0 := hc2.free (2 + t)
      have F := hid (show Rst w ((w2.alloc (.cells #[.int .i64 0, .int .i64 0] 47)).setCell ⟨rb, 2 + t, none⟩ (.int .u32 0)) rb Q T S (upd M t 0) Lk from by
        have hk := Kp.setCell (w2.alloc (.cells #[.int .i64 0, .int .i64 0] 47)) ⟨rb, 2 + t, none⟩ (.int .u32 0)
        refine ⟨Q2, ⟨V2, hQ2, hc2.setM ht16 0, he2.kp hk (fun g hg hm => ?_)⟩, HKQ.out.1.trans n2 HKQ.out.2.size, (HKQ.out.2.trans (k2.trans ((Kp.alloc _ _ _).nil))).trans hk⟩
        obtain ⟨-, cur, hx⟩ := owns_block he2 hg
        simp at hm
        subst hm
        have := hc2
        unfold Rc at this
        rw [this] at hx
        simp at hx)
      generalize M t = mt at c0
      clear s2 n2 k2 HX hs3 hc2 he2
      go_wp2
      go_ret2
      refine ⟨?_, by rw [← HE.out.2]; exact F.out⟩
      rw [← HE.out.1]
      rfl
/-- Clear. -/
theorem rclear_any (w : World) (rb : Nat) (Q : List Nat) (T S : Nat) (M : Nat → Nat) (L : El) (t : Int) (h : Rm w rb Q T S M L) (hT : T ≤ 16) (hok : Ok T S L) (hl : L.length ≤ 600) : Calls Try.prog 28 #[.pointer (some ⟨rb, 0, none⟩), .int .i64 t] w fun e w' => e = .returned (.tuple #[.int .i64 (clN T L t), .int .i64 (clE T t)]) ∧ Rst w w' rb Q T S (clM T M t) (leftV T L t) := by
  unfold clN clE clM
  cases hb : inT T t with
  | false =>
    rw [if_neg (by simp), if_neg (by simp), if_neg (by simp)]
    have e : leftV T L t = L := by unfold leftV; rw [hb]; rfl
    rw [e]
    refine (rclear_no w rb Q T S M L t h hb).mono ?_
    rintro e w' ⟨rfl, rfl⟩
    exact ⟨rfl, Rst.stay h (Kp.refl _ _)⟩
  | true =>
    obtain ⟨k, rfl, hk⟩ := inT_yes hb
    rw [if_pos rfl, if_pos rfl, if_pos rfl]
    exact rclear_yes w rb Q T S M L k h hk hT hok hl
end Go.Proofs.Ytoenipaccnpihaa
