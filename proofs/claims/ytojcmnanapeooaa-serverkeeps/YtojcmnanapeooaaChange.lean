/- Start, Stop, Use. -/
import Derived.Test.YtojcmnanapeooaaEnd
namespace Go.Proofs.Ytojcmnanapeooaa
open Go.RowKit Go.Shelf

set_option maxRecDepth 100000 in
theorem start_any (w : World) (sb : Nat) (v : Value) (s : Sv) (now : Int) (h : Sr w sb v s) : Calls Try.prog 14 #[.pointer (some ⟨sb, 0, none⟩), .int .i64 now] w fun e w' => e = .returned (.int .i64 (startE s now)) ∧ Wt w w' sb v (startS s now) := by
  have cz := zero_no w sb _ _ _ _ _ _ _ h.c h.ok.m1
  have cm := may_any w now
  have H := hid h
  have f3 := h.c.free 3
  have f4 := h.c.free 4
  have f5 := h.c.free 5
  have c3 := h.c.c.2.2.2.1
  have c4 := h.c.c.2.2.2.2.1
  have c5 := h.c.c.2.2.2.2.2.1
  have HO := hid (ok_start h.ok now)
  have HS : startS s now = if startE s now = 0 then { s with act := true, since := now, used := 0 } else s := rfl
  clear h
  cases hm : mayT now with
  | false =>
    rw [hm] at cm
    have e0 : startE s now = 2 := by unfold startE; rw [hm]; rfl
    rw [e0] at HS ⊢
    rw [HS, if_neg (by decide)]
    clear HS e0 HO
    go_enter Try.func14, Try.ntmps14
    go_wp2_with (first | (go_at_call 30; refine cz.mono ?_; rintro e w' ⟨rfl, rfl⟩) | (go_at_call 31; refine cm.mono ?_; rintro e w' ⟨rfl, rfl⟩))
    go_ret
    exact ⟨rfl, Wt.refl H.out⟩
  | true =>
    rw [hm] at cm
    cases ha : s.act with
    | true =>
      have e0 : startE s now = 7 := by unfold startE; rw [hm, ha]; rfl
      rw [e0] at HS ⊢
      rw [HS, if_neg (by decide)]
      rw [ha] at c3
      clear HS e0 HO
      go_enter Try.func14, Try.ntmps14
      go_wp2_with (first | (go_at_call 30; refine cz.mono ?_; rintro e w' ⟨rfl, rfl⟩) | (go_at_call 31; refine cm.mono ?_; rintro e w' ⟨rfl, rfl⟩))
      go_ret
      exact ⟨rfl, Wt.refl H.out⟩
    | false =>
      have e0 : startE s now = 0 := by unfold startE; rw [hm, ha]; rfl
      rw [e0] at HS ⊢
      rw [if_pos rfl] at HS
      rw [HS] at HO ⊢
      rw [ha] at c3
      have HF := hid (show Wt w (((w.setCell ⟨sb, 3, none⟩ (.bool true)).setCell ⟨sb, 4, none⟩ (.int .i64 now)).setCell ⟨sb, 5, none⟩ (.int .i64 0)) sb v { s with act := true, since := now, used := 0 } from
        Wt.own (((H.out.c.set3 true).set4 now).set5 0) (((Kp.setCell w ⟨sb, 3, none⟩ _).trans (Kp.setCell _ ⟨sb, 4, none⟩ _)).trans (Kp.setCell _ ⟨sb, 5, none⟩ _)) H.out rfl HO.out)
      obtain ⟨S', hS'⟩ : ∃ S', ({ s with act := true, since := now, used := 0 } : Sv) = S' := ⟨_, rfl⟩
      rw [hS'] at HF ⊢
      clear HS e0 HO hS'
      go_enter Try.func14, Try.ntmps14
      go_wp2_with (first | (go_at_call 30; refine cz.mono ?_; rintro e w' ⟨rfl, rfl⟩) | (go_at_call 31; refine cm.mono ?_; rintro e w' ⟨rfl, rfl⟩))
      go_ret
      exact ⟨rfl, HF.out⟩
/-- What end leaves, as a server. -/
theorem end_wt {w w' : World} {sb : Nat} {v : Value} {s s' : Sv} {si least : Int} (h : Sr w sb v s) (ho : Ok s') (e1 : s'.per = s.per) (e2 : s'.most = s.most) (e3 : s'.act = false) (e4 : s'.since = 0) (e5 : s'.used = 0) {l u : Int} (e6 : s'.left = l) (e7 : s'.pcs = endP si s.per least u s.pcs) (hE : (∃ v', Sc w' sb s.per s.most l false 0 0 v' ∧ Dr w' 0 v' (endP si s.per least u s.pcs) ∧ ∀ g, v'.ownBlock = some g → v.ownBlock = some g ∨ w.heap.size ≤ g) ∧ Kp w w' (rws sb v)) : Wt w w' sb v s' := by
  obtain ⟨⟨v', a, b, c⟩, k⟩ := hE
  have _ := h
  exact ⟨⟨v', ⟨by rw [e1, e2, e3, e4, e5, e6]; exact a, by rw [e7]; exact b, ho⟩, c⟩, k⟩
theorem over_pcs (s : Sv) (least : Int) : (overS s least).pcs = endP s.since s.per least s.used s.pcs := rfl
theorem Ok.plen {s : Sv} (h : Ok s) : s.pcs.length ≤ 1000 := by
  have := h.ln
  have := h.m2
  omega
set_option maxRecDepth 100000 in
theorem stop_any (w : World) (sb : Nat) (v : Value) (s : Sv) (now : Int) (h : Sr w sb v s) : Calls Try.prog 16 #[.pointer (some ⟨sb, 0, none⟩), .int .i64 now] w fun e w' => e = .returned (.int .i64 (stopE s now)) ∧ Wt w w' sb v (stopS s now) := by
  have cz := zero_no w sb _ _ _ _ _ _ _ h.c h.ok.m1
  have cm := may_any w now
  have hp0 : 0 ≤ s.per := by have := h.ok.b1; have := h.ok.bp; omega
  have ce := hid (end_any w sb _ _ _ _ _ _ _ s.pcs now h.c h.row h.ok.si.1 h.ok.si.2 hp0 h.ok.pm h.ok.plen)
  have H := hid h
  have c3 := h.c.c.2.2.2.1
  have HO := hid (ok_stop h.ok now)
  have HS : stopS s now = if stopE s now = 0 then overS s now else s := rfl
  clear h hp0
  cases hm : mayT now with
  | false =>
    rw [hm] at cm
    have e0 : stopE s now = 2 := by unfold stopE; rw [hm]; rfl
    rw [e0] at HS ⊢
    rw [HS, if_neg (by decide)]
    clear HS e0 HO
    go_enter Try.func16, Try.ntmps16
    go_wp2_with (first | (go_at_call 30; refine cz.mono ?_; rintro e w' ⟨rfl, rfl⟩) | (go_at_call 31; refine cm.mono ?_; rintro e w' ⟨rfl, rfl⟩))
    go_ret
    exact ⟨rfl, Wt.refl H.out⟩
  | true =>
    rw [hm] at cm
    cases ha : s.act with
    | false =>
      have e0 : stopE s now = 7 := by unfold stopE; rw [hm, ha]; rfl
      rw [e0] at HS ⊢
      rw [HS, if_neg (by decide)]
      rw [ha] at c3
      clear HS e0 HO
      go_enter Try.func16, Try.ntmps16
      go_wp2_with (first | (go_at_call 30; refine cz.mono ?_; rintro e w' ⟨rfl, rfl⟩) | (go_at_call 31; refine cm.mono ?_; rintro e w' ⟨rfl, rfl⟩))
      go_ret
      exact ⟨rfl, Wt.refl H.out⟩
    | true =>
      have e0 : stopE s now = 0 := by unfold stopE; rw [hm, ha]; rfl
      rw [e0] at HS ⊢
      rw [if_pos rfl] at HS
      rw [HS] at HO ⊢
      rw [ha] at c3
      obtain ⟨S', hS'⟩ : ∃ S', overS s now = S' := ⟨_, rfl⟩
      rw [hS'] at HO ⊢
      have HS' := hid hS'
      clear HS e0 hS'
      go_enter Try.func16, Try.ntmps16
      go_wp2_with (first | (go_at_call 30; refine cz.mono ?_; rintro e w' ⟨rfl, rfl⟩) | (go_at_call 31; refine cm.mono ?_; rintro e w' ⟨rfl, rfl⟩) | (go_at_call 32; refine ce.out.mono ?_; rintro e w' ⟨rfl, hE⟩; have HE := hid hE; clear hE))
      go_ret
      refine ⟨rfl, end_wt H.out HO.out ?_ ?_ ?_ ?_ ?_ ?_ ?_ HE.out⟩ <;> (rw [← HS'.out]; rfl)
end Go.Proofs.Ytojcmnanapeooaa
