/- Turns: what goes elsewhere. -/
import Derived.Test.YtclbphnelfacfaaTn
namespace Go.Proofs.Ytclbphnelfacfaa
open Go.RowKit Go.Shelf

/-- It is taken out, and put elsewhere. -/
def goL (front : Bool) (L : Ls) (t p : Int) : Ls := putL front (remL L t) p t
section
variable {w w' : World} {xb rb q s : Nat} {S : Sh} {L : Ls}
theorem To.refl (h : Tn w xb rb q S L s) : To w w xb rb q S L s 0 := ⟨⟨s, Nat.le_refl _, h⟩, Kp.refl _ _⟩
theorem To.of_kp (h : Tn w xb rb q S L s) (hk : Kp w w' []) : To w w' xb rb q S L s 0 := ⟨⟨s, Nat.le_refl _, h.same hk⟩, hk.nil⟩
/-- The ready list has gone on. -/
theorem Tn.over (h : Tn w xb rb q S L s) {L' : Ls} {s' k : Nat} (hR : Rd w' rb L' s') (hk : Kp w w' [rb]) (hs : s' ≤ s + k) : To w w' xb rb q S L' s k :=
  ⟨⟨s', hs, ⟨h.tc.keep hk (by simp; exact h.ne), hR, h.q1, h.q2, h.left⟩⟩, hk.mono (by intro x hx _; simp at hx; simp [hx])⟩
theorem To.then {w1 w2 : World} {S1 S2 : Sh} {L1 L2 : Ls} {k1 k2 : Nat} (h : To w w1 xb rb q S1 L1 s k1) (h' : ∀ s1, s1 ≤ s + k1 → Tn w1 xb rb q S1 L1 s1 → To w1 w2 xb rb q S2 L2 s1 k2) : To w w2 xb rb q S2 L2 s (k1 + k2) := by
  obtain ⟨⟨s1, l1, h1⟩, k1'⟩ := h
  obtain ⟨⟨s2, l2, h2⟩, k2'⟩ := h' s1 l1 h1
  exact ⟨⟨s2, by omega, h2⟩, k1'.trans k2'⟩
theorem Tn.lt (h : Tn w xb rb q S L s) : xb < w.heap.size ∧ rb < w.heap.size := ⟨h.tc.lt, h.rd.lt⟩

set_option maxRecDepth 100000 in
theorem Tn.fill (h : Tn w xb rb q S L s) {T : Nat} (ht : T < 16) (b : Bool) : Calls Try.prog 44 #[.pointer (some ⟨xb, 0, none⟩), .int .i64 T, .bool b] w fun e w' => (∃ v, e = .returned v) ∧ To w w' xb rb q (updS S T (b, q)) L s 0 := by
  have cq := h.tc.quantum
  have cr := h.tc.robin ht
  have cl := h.tc.left ht
  have f1 := h.tc.free (2 + T * 2)
  have f2 := h.tc.free (2 + T * 2 + 1)
  have ht0 : (0 : Int) ≤ (T : Int) := by omega
  have ht1 : (T : Int) < 16 := by omega
  have H := hid h
  clear h
  go_enter Try.func44, Try.ntmps44
  go_wp2
  go_region
  go_end0
  refine ⟨⟨_, rfl⟩, ⟨s, Nat.le_refl _, ⟨(H.out.tc.set ht b q).keep (Kp.drew _ []) (by simp), H.out.rd.keep (((Kp.setCell w ⟨xb, 2 + T * 2, none⟩ _).trans (Kp.setCell _ ⟨xb, 2 + T * 2 + 1, none⟩ _)).trans (Kp.drew _ _)) (by simp; exact fun e => H.out.ne e.symm), H.out.q1, H.out.q2, fun t => ?_⟩⟩, (((Kp.setCell w ⟨xb, 2 + T * 2, none⟩ _).trans (Kp.setCell _ ⟨xb, 2 + T * 2 + 1, none⟩ _)).trans (Kp.drew _ _)).mono (by intro x hx _; simp at hx; simp [hx])⟩
  unfold updS
  split
  · exact H.out.q2
  · exact H.out.left t

set_option maxRecDepth 100000 in
theorem Tn.toTail (h : Tn w xb rb q S L s) (hs : s ≤ 890000) (t p : Int) : Calls Try.prog 55 #[.pointer (some ⟨xb, 0, none⟩), .int .i64 t, .int .i64 p] w fun e w' => (∃ v, e = .returned v) ∧ To w w' xb rb q S (goL false L t p) s 12 := by
  have c0 := h.tc.seqs
  have H := hid h
  clear h
  go_enter Try.func55, Try.ntmps55
  go_wp2_with fail
  refine (H.out.rd.remove (by omega) t).mono ?_
  rintro e w1 ⟨rfl, ⟨s1, l1, m1, hR1⟩, hK1⟩
  have T1 := hid (H.out.over hR1 hK1 m1)
  clear hR1 hK1
  obtain ⟨⟨s2, l2, h2⟩, -⟩ := T1.out
  have c1 := h2.tc.seqs
  have H2 := hid h2
  clear h2 c0
  go_wp2_with fail
  refine (H2.out.rd.tail (by omega) p t).mono ?_
  rintro e w2 ⟨rfl, ⟨s3, l3, m3, hR3⟩, hK3⟩
  have T2 := hid (show To w w2 xb rb q S (goL false L t p) s 12 from ⟨⟨s3, by omega, ⟨H2.out.tc.keep hK3 (by simp; exact H2.out.ne), hR3, H2.out.q1, H2.out.q2, H2.out.left⟩⟩, T1.out.2.trans (hK3.mono (by intro x hx _; simp at hx; simp [hx]))⟩)
  clear hR3 hK3
  go_wp2
  go_end0
  exact ⟨⟨_, rfl⟩, T2.out⟩
set_option maxRecDepth 100000 in
theorem Tn.toHead (h : Tn w xb rb q S L s) (hs : s ≤ 890000) (t p : Int) : Calls Try.prog 59 #[.pointer (some ⟨xb, 0, none⟩), .int .i64 t, .int .i64 p] w fun e w' => (∃ v, e = .returned v) ∧ To w w' xb rb q S (goL true L t p) s 12 := by
  have c0 := h.tc.seqs
  have H := hid h
  clear h
  go_enter Try.func59, Try.ntmps59
  go_wp2_with fail
  refine (H.out.rd.remove (by omega) t).mono ?_
  rintro e w1 ⟨rfl, ⟨s1, l1, m1, hR1⟩, hK1⟩
  have T1 := hid (H.out.over hR1 hK1 m1)
  clear hR1 hK1
  obtain ⟨⟨s2, l2, h2⟩, -⟩ := T1.out
  have c1 := h2.tc.seqs
  have H2 := hid h2
  clear h2 c0
  go_wp2_with fail
  refine (H2.out.rd.head (by omega) p t).mono ?_
  rintro e w2 ⟨rfl, ⟨s3, l3, m3, hR3⟩, hK3⟩
  have T2 := hid (show To w w2 xb rb q S (goL true L t p) s 12 from ⟨⟨s3, by omega, ⟨H2.out.tc.keep hK3 (by simp; exact H2.out.ne), hR3, H2.out.q1, H2.out.q2, H2.out.left⟩⟩, T1.out.2.trans (hK3.mono (by intro x hx _; simp at hx; simp [hx]))⟩)
  clear hR3 hK3
  go_wp2
  go_end0
  exact ⟨⟨_, rfl⟩, T2.out⟩

/-! ### from, to -/
theorem prI_nat (L : Ls) (T : Nat) : prI L (T : Int) = prN L T 31 := by unfold prI; rw [if_pos (by omega), Int.toNat_natCast]
set_option maxRecDepth 100000 in
theorem Tn.from_err (h : Tn w xb rb q S L s) (t : Int) (f : Value) (he : remE L t ≠ 0) : Calls Try.prog 51 #[.pointer (some ⟨xb, 0, none⟩), .int .i64 t, f] w fun e w' => e = .returned (.int .i64 (remE L t)) ∧ w' = w := by
  have cp := h.prio t
  have cz := tzero_ok w xb rb q S h.tc
  have ct := tmayT_any w t
  rcases rem_cases L t with ⟨ha, e1, -⟩ | ⟨T, rfl, t1, ⟨h0, e1, -⟩ | ⟨h0, e1, -⟩⟩
  · rw [e1]
    rw [show decide (0 ≤ t ∧ t < 16) = false by simp only [ha, decide_false]] at ct
    obtain ⟨b, hb⟩ : ∃ b, decide (prI L t ≠ 0) = b := ⟨_, rfl⟩
    rw [hb] at cp
    clear h ha he e1 hb
    go_enter Try.func51, Try.ntmps51
    go_wp2_with (first | (go_at_call 25; refine cp.mono ?_; rintro e w' ⟨rfl, rfl⟩) | (go_at_call 47; refine cz.mono ?_; rintro e w' ⟨rfl, rfl⟩) | (go_at_call 74; refine ct.mono ?_; rintro e w' ⟨rfl, rfl⟩))
    go_ret
    exact ⟨rfl, rfl⟩
  · rw [e1]
    rw [show decide (0 ≤ (T : Int) ∧ (T : Int) < 16) = true by simp; omega] at ct
    rw [prI_nat, h0] at cp
    clear h he e1
    go_enter Try.func51, Try.ntmps51
    go_wp2_with (first | (go_at_call 25; refine cp.mono ?_; rintro e w' ⟨rfl, rfl⟩) | (go_at_call 47; refine cz.mono ?_; rintro e w' ⟨rfl, rfl⟩) | (go_at_call 74; refine ct.mono ?_; rintro e w' ⟨rfl, rfl⟩))
    go_ret
    exact ⟨rfl, rfl⟩
  · exact absurd e1 he
set_option maxRecDepth 100000 in
theorem Tn.from_ok (h : Tn w xb rb q S L s) (T : Nat) (k : Nat) (lb : Array Value) (R : World → Prop) (t1 : T < 16) (h0 : prN L T 31 ≠ 0) (hen : ∀ (args : Array Value) (w : World), (callFunc k args).run Try.prog w = .ok (.enter k args) w)
    (hcl : Calls Try.prog k (#[.int .i64 (prN L T 31 : Nat)] ++ lb) w fun e w' => (∃ v, e = .returned v) ∧ R w') :
    Calls Try.prog 51 #[.pointer (some ⟨xb, 0, none⟩), .int .i64 T, .func (.func k) #[] lb] w fun e w' => e = .returned (.int .i64 0) ∧ R w' := by
  have cp := h.prio T
  have cz := tzero_ok w xb rb q S h.tc
  have ct := tmayT_any w T
  rw [show decide (0 ≤ (T : Int) ∧ (T : Int) < 16) = true by simp; omega] at ct
  rw [prI_nat, show decide (prN L T 31 ≠ 0) = true by simp [h0]] at cp
  clear h
  go_enter Try.func51, Try.ntmps51
  go_wp2_with (first | (go_at_call 25; refine cp.mono ?_; rintro e w' ⟨rfl, rfl⟩) | (go_at_call 47; refine cz.mono ?_; rintro e w' ⟨rfl, rfl⟩) | (go_at_call 74; refine ct.mono ?_; rintro e w' ⟨rfl, rfl⟩))
  refine hcl.mono ?_
  rintro e w1 ⟨⟨v, rfl⟩, hR⟩
  have HR := hid hR
  clear hR hcl cp cz ct hen
  go_wp2
  go_ret
  exact ⟨rfl, HR.out⟩
set_option maxRecDepth 100000 in
theorem Tn.to_arg (h : Tn w xb rb q S L s) (t p : Int) (f : Value) (hp : ¬ (1 ≤ p ∧ p ≤ 31)) : Calls Try.prog 56 #[.pointer (some ⟨xb, 0, none⟩), .int .i64 t, .int .i64 p, f] w fun e w' => e = .returned (.int .i64 2) ∧ w' = w := by
  have cz := tzero_ok w xb rb q S h.tc
  have ct := tmayP_any w p
  rw [show decide (1 ≤ p ∧ p ≤ 31) = false by simp only [hp, decide_false]] at ct
  clear h hp
  go_enter Try.func56, Try.ntmps56
  go_wp2_with (first | (go_at_call 47; refine cz.mono ?_; rintro e w' ⟨rfl, rfl⟩) | (go_at_call 76; refine ct.mono ?_; rintro e w' ⟨rfl, rfl⟩))
  go_ret
  exact ⟨rfl, rfl⟩
set_option maxRecDepth 100000 in
theorem Tn.to_go (h : Tn w xb rb q S L s) (t p E : Int) (f : Value) (R : World → Prop) (hp : 1 ≤ p ∧ p ≤ 31) (cf : Calls Try.prog 51 #[.pointer (some ⟨xb, 0, none⟩), .int .i64 t, f] w fun e w' => e = .returned (.int .i64 E) ∧ R w') : Calls Try.prog 56 #[.pointer (some ⟨xb, 0, none⟩), .int .i64 t, .int .i64 p, f] w fun e w' => e = .returned (.int .i64 E) ∧ R w' := by
  have cz := tzero_ok w xb rb q S h.tc
  have ct := tmayP_any w p
  rw [show decide (1 ≤ p ∧ p ≤ 31) = true by simp only [hp, and_self, decide_true]] at ct
  clear h hp
  go_enter Try.func56, Try.ntmps56
  go_wp2_with (first | (go_at_call 47; refine cz.mono ?_; rintro e w' ⟨rfl, rfl⟩) | (go_at_call 76; refine ct.mono ?_; rintro e w' ⟨rfl, rfl⟩))
  refine cf.mono ?_
  rintro e w1 ⟨rfl, hR⟩
  have HR := hid hR
  clear hR cf cz ct
  go_wp2
  go_ret
  exact ⟨rfl, HR.out⟩

/-! ### The ways -/
set_option maxRecDepth 100000 in
theorem leave1_ok (h : Tn w xb rb q S L s) (hs : s ≤ 890000) (T : Nat) (ht : T < 16) (a b : Nat) (own : Int) (ca : w.cell? ⟨a, 0, none⟩ = some (.pointer (some ⟨xb, 0, none⟩))) (cb : w.cell? ⟨b, 0, none⟩ = some (.int .i64 T)) (ha : a ∉ [xb, rb]) (hb : b ∉ [xb, rb]) :
    Calls Try.prog 52 #[.int .i64 own, .pointer (some ⟨a, 0, none⟩), .pointer (some ⟨b, 0, none⟩)] w fun e w' => (∃ v, e = .returned v) ∧ To w w' xb rb q (updS S T (false, 0)) (remL L T) s 6 := by
  have c0 := h.tc.seqs
  have H := hid h
  have HS := hid (fun (w1 : World) (hk : Kp w w1 [rb]) => show w1.cell? ⟨a, 0, none⟩ = some (.pointer (some ⟨xb, 0, none⟩)) ∧ w1.cell? ⟨b, 0, none⟩ = some (.int .i64 T) ∧ w1.cell? ⟨xb, 0, none⟩ = some (.pointer (some ⟨rb, 0, none⟩)) from ⟨hk.cell ca (by simp at ha; simp [ha]), hk.cell cb (by simp at hb; simp [hb]), hk.cell c0 (by simp; exact h.ne)⟩)
  clear h ha hb ca cb c0
  go_enter Try.func52, Try.ntmps52
  go_wp2_with fail
  go_region_held_law (fun w1 => w1.cell? ⟨a, 0, none⟩ = some (.pointer (some ⟨xb, 0, none⟩)) ∧ w1.cell? ⟨b, 0, none⟩ = some (.int .i64 T) ∧ w1.cell? ⟨xb, 0, none⟩ = some (.pointer (some ⟨rb, 0, none⟩)))
    (first
      | exact HS.out _ (Kp.drew _ _)
      | exact HS.out _ ((Kp.drew _ _).trans hK1))
    (first | (go_at_call 53; refine ((H.out.rd.keep (Kp.drew _ []) (by simp)).remove (by omega) T).mono ?_; rintro e w1 ⟨rfl, ⟨s1, l1, m1, hR1⟩, hK1⟩) | fail)
  have hK := (Kp.drew w [rb]).trans hK1
  have T1 := hid (H.out.over hR1 hK m1)
  obtain ⟨⟨s2, l2, h2⟩, -⟩ := T1.out
  obtain ⟨ca, cb, c0⟩ := HS.out _ hK
  have f1 := h2.tc.free (2 + T * 2)
  have f2 := h2.tc.free (2 + T * 2 + 1)
  have cr := h2.tc.robin ht
  have cl := h2.tc.left ht
  have H2 := hid h2
  have ht0 : (0 : Int) ≤ (T : Int) := by omega
  have ht1 : (T : Int) < 16 := by omega
  clear hK hK1 hR1 h2
  go_wp2_with fail
  go_region
  go_end0
  have K2 := (((Kp.setCell w1 ⟨xb, 2 + T * 2, none⟩ (.bool false)).trans (Kp.setCell _ ⟨xb, 2 + T * 2 + 1, none⟩ (.int .i64 0))).trans (Kp.drew _ _))
  refine ⟨⟨_, rfl⟩, ⟨s2, l2, ⟨(H2.out.tc.set ht false 0).keep (Kp.drew _ []) (by simp), H2.out.rd.keep K2 (by simp; exact fun e => H2.out.ne e.symm), H2.out.q1, H2.out.q2, fun t => ?_⟩⟩, T1.out.2.trans (K2.mono (by intro x hx _; simp at hx; simp [hx]))⟩
  unfold updS
  split
  · simp
  · exact H2.out.left t
set_option maxRecDepth 100000 in
theorem yield1_ok (h : Tn w xb rb q S L s) (hs : s ≤ 890000) (t : Int) (a b : Nat) (own : Int) (ca : w.cell? ⟨a, 0, none⟩ = some (.pointer (some ⟨xb, 0, none⟩))) (cb : w.cell? ⟨b, 0, none⟩ = some (.int .i64 t)) :
    Calls Try.prog 54 #[.int .i64 own, .pointer (some ⟨a, 0, none⟩), .pointer (some ⟨b, 0, none⟩)] w fun e w' => (∃ v, e = .returned v) ∧ To w w' xb rb q S (goL false L t own) s 12 := by
  have H := hid h
  clear h
  go_enter Try.func54, Try.ntmps54
  go_wp2_with fail
  refine (H.out.toTail hs t own).mono ?_
  rintro e w1 ⟨⟨v, rfl⟩, hT⟩
  have HT := hid hT
  clear hT
  go_wp2
  go_end0
  exact ⟨⟨_, rfl⟩, HT.out⟩
set_option maxRecDepth 100000 in
theorem put1_ok (h : Tn w xb rb q S L s) (hs : s ≤ 890000) (T : Nat) (ht : T < 16) (p : Int) (r : Bool) (a b c d : Nat) (own : Int) (ca : w.cell? ⟨a, 0, none⟩ = some (.pointer (some ⟨xb, 0, none⟩))) (cb : w.cell? ⟨b, 0, none⟩ = some (.int .i64 T)) (cc : w.cell? ⟨c, 0, none⟩ = some (.int .i64 p)) (cd : w.cell? ⟨d, 0, none⟩ = some (.bool r)) (ha : a ∉ [xb, rb]) (hb : b ∉ [xb, rb]) (hd : d ∉ [xb, rb]) :
    Calls Try.prog 57 #[.int .i64 own, .pointer (some ⟨a, 0, none⟩), .pointer (some ⟨b, 0, none⟩), .pointer (some ⟨c, 0, none⟩), .pointer (some ⟨d, 0, none⟩)] w fun e w' => (∃ v, e = .returned v) ∧ To w w' xb rb q (updS S T (r, q)) (goL false L T p) s 12 := by
  have H := hid h
  have HS := hid (fun (w1 : World) (hk : Kp w w1 [xb, rb]) => show w1.cell? ⟨a, 0, none⟩ = some (.pointer (some ⟨xb, 0, none⟩)) ∧ w1.cell? ⟨b, 0, none⟩ = some (.int .i64 T) ∧ w1.cell? ⟨d, 0, none⟩ = some (.bool r) from ⟨hk.cell ca ha, hk.cell cb hb, hk.cell cd hd⟩)
  clear h ha hb hd
  go_enter Try.func57, Try.ntmps57
  go_wp2_with fail
  refine (H.out.toTail hs T p).mono ?_
  rintro e w1 ⟨⟨v, rfl⟩, hT⟩
  obtain ⟨da, db, dd⟩ := HS.out _ hT.2
  have HT := hid hT
  obtain ⟨⟨s2, l2, h2⟩, hk2⟩ := hT
  have H2 := hid h2
  clear h2 hk2 ca cb cc cd
  go_wp2_with fail
  refine (H2.out.fill ht r).mono ?_
  rintro e w2 ⟨⟨v2, rfl⟩, hT2⟩
  have HT2 := hid (show To w w2 xb rb q (updS S T (r, q)) (goL false L T p) s 12 from by
    obtain ⟨⟨s3, l3, h3⟩, k3⟩ := hT2
    exact ⟨⟨s3, by omega, h3⟩, HT.out.2.trans k3⟩)
  clear hT2
  go_wp2
  go_end0
  exact ⟨⟨_, rfl⟩, HT2.out⟩
/-- Where Move and Lift bring it. -/
def moveTo (L : Ls) (t p own : Int) : Ls := if own < p then goL false L t p else if p < own then goL true L t p else L
def liftTo (L : Ls) (t p own : Int) : Ls := if p ≠ own then goL true L t p else L
set_option maxRecDepth 100000 in
theorem move1_ok (h : Tn w xb rb q S L s) (hs : s ≤ 890000) (t p : Int) (a b c : Nat) (own : Int) (ca : w.cell? ⟨a, 0, none⟩ = some (.pointer (some ⟨xb, 0, none⟩))) (cb : w.cell? ⟨b, 0, none⟩ = some (.int .i64 t)) (cc : w.cell? ⟨c, 0, none⟩ = some (.int .i64 p)) :
    Calls Try.prog 58 #[.int .i64 own, .pointer (some ⟨c, 0, none⟩), .pointer (some ⟨a, 0, none⟩), .pointer (some ⟨b, 0, none⟩)] w fun e w' => (∃ v, e = .returned v) ∧ To w w' xb rb q S (moveTo L t p own) s 12 := by
  have H := hid h
  clear h
  unfold moveTo
  by_cases h1 : own < p
  · rw [if_pos h1]
    go_enter Try.func58, Try.ntmps58
    go_wp2_with fail
    refine (H.out.toTail hs t p).mono ?_
    rintro e w1 ⟨⟨v, rfl⟩, hT⟩
    have HT := hid hT
    clear hT
    go_wp2
    go_end0
    exact ⟨⟨_, rfl⟩, HT.out⟩
  rw [if_neg h1]
  by_cases h2 : p < own
  · rw [if_pos h2]
    go_enter Try.func58, Try.ntmps58
    go_wp2_with fail
    refine (H.out.toHead hs t p).mono ?_
    rintro e w1 ⟨⟨v, rfl⟩, hT⟩
    have HT := hid hT
    clear hT
    go_wp2
    go_end0
    exact ⟨⟨_, rfl⟩, HT.out⟩
  rw [if_neg h2]
  go_enter Try.func58, Try.ntmps58
  go_wp2
  go_end0
  exact ⟨⟨_, rfl⟩, (To.refl H.out).more (by omega)⟩
set_option maxRecDepth 100000 in
theorem lift1_ok (h : Tn w xb rb q S L s) (hs : s ≤ 890000) (t p : Int) (a b c : Nat) (own : Int) (ca : w.cell? ⟨a, 0, none⟩ = some (.pointer (some ⟨xb, 0, none⟩))) (cb : w.cell? ⟨b, 0, none⟩ = some (.int .i64 t)) (cc : w.cell? ⟨c, 0, none⟩ = some (.int .i64 p)) :
    Calls Try.prog 60 #[.int .i64 own, .pointer (some ⟨c, 0, none⟩), .pointer (some ⟨a, 0, none⟩), .pointer (some ⟨b, 0, none⟩)] w fun e w' => (∃ v, e = .returned v) ∧ To w w' xb rb q S (liftTo L t p own) s 12 := by
  have H := hid h
  clear h
  unfold liftTo
  by_cases h1 : p = own
  · have hn : (p != own) = false := by simp [h1]
    rw [if_neg (by simp [h1])]
    clear h1
    go_enter Try.func60, Try.ntmps60
    go_wp2
    go_end0
    exact ⟨⟨_, rfl⟩, (To.refl H.out).more (by omega)⟩
  · have hn : (p != own) = true := by simp [h1]
    rw [if_pos h1]
    clear h1
    go_enter Try.func60, Try.ntmps60
    go_wp2_with fail
    refine (H.out.toHead hs t p).mono ?_
    rintro e w1 ⟨⟨v, rfl⟩, hT⟩
    have HT := hid hT
    clear hT
    go_wp2
    go_end0
    exact ⟨⟨_, rfl⟩, HT.out⟩
end
end Go.Proofs.Ytclbphnelfacfaa
