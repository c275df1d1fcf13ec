/- DeleteFunc of any row; Due. -/
import Derived.Test.YtojcmnanapeooaaUse
namespace Go.Proofs.Ytojcmnanapeooaa
open Go.RowKit Go.Shelf

set_option maxRecDepth 100000 in
theorem del_none (w : World) (base : Nat) (v : Value) (l : List Dl) (g cb : Nat) (c : Int) (p : Dl → Bool) (h : Dr w base v l) (hp : Prd g cb c p) (hc : w.cell? ⟨cb, 0, none⟩ = some (.int .i64 c)) (hl : l.length ≤ 100000) (ha : l.any p = false) :
    Calls Try.prog 34 #[v, pv g cb] w fun e w' => e = .returned v ∧ Kp w w' [] := by
  have ci := idx_any w base v l g cb c p h hp hc hl
  obtain ⟨ao, cap, rfl⟩ := h.slice
  have HI := hid ci
  have HA := hid ha
  obtain ⟨N, hN⟩ : ∃ N, l.length = N := ⟨_, rfl⟩
  rw [hN] at HI ⊢
  clear h hp hc ci hN hl ha
  go_enter Try.func34, Try.ntmps34
  go_wp2_with fail
  refine HI.out.mono ?_
  rintro e w2 ⟨⟨r, rfl, hr⟩, hK⟩
  have HK := hid hK
  rcases hr with ⟨rfl, -⟩ | ⟨i, rfl, hi, hpi, -⟩
  · clear hK
    go_wp2
    go_ret
    exact ⟨rfl, HK.out⟩
  · exfalso
    have := HA.out
    rw [List.any_eq_false] at this
    exact this l[i]! (by rw [getElem!_pos l i hi]; exact List.getElem_mem hi) hpi
theorem del_all (w : World) (v : Value) (l : List Dl) (g cb : Nat) (c : Int) (p : Dl → Bool) (h : Dr w 0 v l) (hp : Prd g cb c p) (hc : w.cell? ⟨cb, 0, none⟩ = some (.int .i64 c)) (hl : l.length ≤ 100000) (hne : v.ownBlock ≠ some cb) :
    Calls Try.prog 34 #[v, pv g cb] w fun e w' => ∃ v', e = .returned v' ∧ Dr w' 0 v' (rest p l) ∧ v'.ownBlock = v.ownBlock ∧ Kp w w' v.ownBlock.toList := by
  cases ha : l.any p with
  | false =>
    refine (del_none w 0 v l g cb c p h hp hc hl ha).mono ?_
    rintro e w' ⟨rfl, hk⟩
    refine ⟨v, rfl, ?_, rfl, hk.nil⟩
    rw [rest_none (fun x hx => by rw [List.any_eq_false] at ha; simpa using ha x hx)]
    exact h.keep hk
  | true =>
    obtain ⟨ao, cap, rfl⟩ := h.slice
    cases ao with
    | none => obtain ⟨rfl, -⟩ := h.none_of; simp at ha
    | some ad =>
      obtain ⟨gb, rfl⟩ := h.some_of
      refine (del_any w 0 gb _ cap l g cb c p h hp hc hl (fun e => hne (by rw [e]; rfl)) ha).mono ?_
      rintro e w' ⟨⟨m, rfl, hd⟩, hk⟩
      exact ⟨_, rfl, hd, rfl, by simpa [Value.ownBlock] using hk⟩
theorem sum_take (l : List Dl) (now : Int) (i : Nat) (h : ∀ x ∈ l, 1 ≤ x.2) : 0 ≤ sumA (dueL (l.take i) now) ∧ sumA (dueL (l.take i) now) ≤ sumA l := by
  have h1 := sum_part (l.take i) now
  have h2 := sumA_app (l.take i) (l.drop i)
  rw [List.take_append_drop] at h2
  have h3 := (sum_nonneg (l.drop i) fun x hx => h x (List.mem_of_mem_drop hx)).1
  have h4 := (sum_nonneg (notL (l.take i) now) fun x hx => h x (List.mem_of_mem_take (List.mem_filter.1 hx).1)).1
  have h5 := (sum_nonneg (dueL (l.take i) now) fun x hx => h x (List.mem_of_mem_take (List.mem_filter.1 hx).1)).1
  omega
theorem due_snoc (l : List Dl) (x : Dl) (now : Int) : sumA (dueL (l ++ [x]) now) = sumA (dueL l now) + if x.1 ≤ now then x.2 else 0 := by
  unfold dueL
  rw [List.filter_append, sumA_app]
  by_cases h : x.1 ≤ now
  · simp [h, sumA]
  · simp [h, sumA]
set_option maxRecDepth 100000 in
set_option maxHeartbeats 2000000 in
theorem due_any (w : World) (sb : Nat) (v : Value) (s : Sv) (now : Int) (h : Sr w sb v s) : Calls Try.prog 17 #[.pointer (some ⟨sb, 0, none⟩), .int .i64 now] w fun e w' => e = .returned (.int .i64 (dueN s now)) ∧ Wt w w' sb v (dueS s now) := by
  have HO := hid (ok_due h.ok now)
  have HA := hid (fun x hx => (h.ok.am x hx).1)
  have HB := hid (show sumA s.pcs ≤ 1099511627776 ∧ 0 ≤ s.left ∧ s.left ≤ 1099511627776 by
    have := h.ok.sum
    have := h.ok.bp
    have := h.ok.pm
    have := h.ok.all
    have := h.ok.l0
    have := h.ok.u0
    omega)
  have HPL := hid h.ok.plen
  have HM := hid h.ok.m1
  obtain ⟨S', hS'⟩ : ∃ S', dueS s now = S' := ⟨_, rfl⟩
  rw [hS'] at HO ⊢
  have HS' := hid hS'
  obtain ⟨D, hD⟩ : ∃ D, dueN s now = D := ⟨_, rfl⟩
  rw [hD]
  have HD := hid hD
  have H := hid h
  obtain ⟨ao, cap, rfl⟩ := h.row.slice
  obtain ⟨bu, p, m, l, a, si, u, P⟩ := s
  obtain ⟨-, -, c2, -, -, -, c6⟩ := h.c.c
  simp only at c2 c6 HA HB HPL HM ⊢
  obtain ⟨N, hN⟩ : ∃ N, P.length = N := ⟨_, rfl⟩
  rw [hN] at c6 ⊢
  have HN := hid hN
  simp only at H
  rw [hN] at H
  have hNl : N ≤ 1000 := by have := HPL.out; omega
  clear h hS' hD hN
  have eg := (prd_due w.heap.size now).ent
  have k1 := Kp.alloc w (.cells #[.int .i64 now] 2) []
  have hsb := H.out.c.lt
  have hne : sb ≠ w.heap.size := by omega
  go_enter Try.func17, Try.ntmps17
  go_wp2_with fail
  refine (zero_no _ sb _ _ _ _ _ _ _ (H.out.same k1).c HM.out).mono ?_
  rintro e w1 ⟨rfl, hw1⟩
  have HK1 := hid (show Kp w w1 [] by rw [hw1]; exact k1)
  have HC := hid (show w1.cell? ⟨w.heap.size, 0, none⟩ = some (.int .i64 now) by rw [hw1]; simp)
  have hw1s : w.heap.size < w1.heap.size := by rw [hw1]; simp
  have hc6 := HK1.out.cell c6 (by simp)
  clear k1 hw1
  go_wp2_with fail
  go_loopw [6, 17] (fun vs vi wr => ∃ (i : Nat) (t : Int), i ≤ N ∧ vi = .int .i64 i ∧ vs = .int .i64 t ∧ Hid (t = sumA (dueL (P.take i) now) ∧ Kp w1 wr [])) (fun _ vi _ => N - (intOf vi).toNat)
  case atStart => exact ⟨0, 0, by omega, rfl, rfl, hid ⟨by simp [dueL, sumA], Kp.refl _ _⟩⟩
  case round =>
    obtain ⟨i, t, hi, rfl, rfl, hR⟩ := hrel
    by_cases hlt : i < N
    · have hltI : (i : Int) < N := by omega
      have hil : i < P.length := by have := HN.out; omega
      obtain ⟨x1, x2, hx⟩ : ∃ x1 x2, P[i]! = (x1, x2) := ⟨P[i]!.1, P[i]!.2, rfl⟩
      obtain ⟨gg, hgg, d1, d2, -, -⟩ := ((H.out.row.keep HK1.out).keep hR.out.2).at hil hx
      subst hgg
      have hlg : gg < wr.heap.size := World.block_lt_of_cell? wr _ d1
      have A1 := hid (Kp.alloc wr (.cells #[.int .i64 x1, .int .i64 x2] 45) [])
      have hcb := hR.out.2.cell HC.out (by simp)
      have HX := hid hx
      have HT := hid (show sumA (dueL (P.take (i + 1)) now) = t + (if x1 ≤ now then x2 else 0) ∧ 0 ≤ sumA (dueL (P.take (i + 1)) now) ∧ sumA (dueL (P.take (i + 1)) now) ≤ 1099511627776 by
        have h1 := sum_take P now (i + 1) HA.out
        have h2 := HB.out
        refine ⟨?_, h1.1, by omega⟩
        rw [take_get hil, HX.out, due_snoc, hR.out.1])
      clear hx hil
      by_cases hq : x1 ≤ now
      · go_wp2_with fail
        refine ((prd_due w.heap.size now).call _ x1 x2 (A1.out.cell hcb (by simp))).mono ?_
        rintro e w2 ⟨rfl, k2⟩
        rw [show decide (((x1, x2) : Dl).1 ≤ now) = true from decide_eq_true hq]
        have b1 := k2.cell (show (wr.alloc (.cells #[.int .i64 x1, .int .i64 x2] 45)).cell? ⟨wr.heap.size, 1, none⟩ = some (.int .i64 x2) by simp) (by simp)
        have K2 := hid (hR.out.2.trans (A1.out.trans k2))
        have hT := HT.out
        rw [if_pos hq] at hT
        have hw : IntKind.i64.wrap (t + x2) = t + x2 := by rw [IntKind.wrap_i64]; omega
        have HT1 := hid hT.1
        clear k2 hT
        go_wp2_with fail
        go_roundw
        case rel => exact ⟨i + 1, t + x2, by omega, by simp, rfl, hid ⟨HT1.out.symm, K2.out⟩⟩
        case measure => simp [intOf]; omega
      · go_wp2_with fail
        refine ((prd_due w.heap.size now).call _ x1 x2 (A1.out.cell hcb (by simp))).mono ?_
        rintro e w2 ⟨rfl, k2⟩
        rw [show decide (((x1, x2) : Dl).1 ≤ now) = false from decide_eq_false (by show ¬ x1 ≤ now; omega)]
        have K2 := hid (hR.out.2.trans (A1.out.trans k2))
        have HT1 := hid (show t = sumA (dueL (P.take (i + 1)) now) by have hT := HT.out.1; rw [if_neg (by omega)] at hT; omega)
        clear k2
        go_wp2_with fail
        go_roundw
        case rel => exact ⟨i + 1, t, by omega, by simp, rfl, hid ⟨HT1.out, K2.out⟩⟩
        case measure => simp [intOf]; omega
    · have hltI : ¬ (i : Int) < N := by omega
      have htD : t = D := by
        have h1 := hR.out.1
        rw [List.take_of_length_le (by have := HN.out; omega)] at h1
        rw [h1]
        exact HD.out
      subst htD
      have KW := hid (HK1.out.trans hR.out.2)
      have HSr := hid (H.out.same KW.out)
      have hcb := hR.out.2.cell HC.out (by simp)
      have CD := hid (del_all wr (.slice ao N cap) P 33 w.heap.size now _ HSr.out.row (prd_due _ _) hcb (by have := HPL.out; omega) (fun e => by have := H.out.row.lt e; omega))
      have hwc6 := HSr.out.c.c.2.2.2.2.2.2
      have hb := HB.out
      have hts : 0 ≤ t ∧ t ≤ 1099511627776 := by
        have h1 := hR.out.1
        have h2 := sum_take P now i HA.out
        omega
      have hw : IntKind.i64.wrap (l + t) = l + t := by rw [IntKind.wrap_i64]; omega
      clear hR hcb c2 c6 hc6 hb hts
      go_wp2_with fail
      refine CD.out.mono ?_
      rintro e w3 ⟨v3, rfl, hd3, hv3, hk3⟩
      have hs3 : Sc w3 sb p m l a si u (.slice ao N cap) := HSr.out.c.keep hk3 (fun hm => HSr.out.row.apart HSr.out.c (by decide) (by simpa using hm))
      have q2 := hs3.c.2.2.1
      have q6 := hs3.c.2.2.2.2.2.2
      have r2 := hs3.free 2
      have r6 := hs3.free 6
      have H3 := hid (And.intro hd3 (And.intro hv3 (And.intro hk3 hs3)))
      obtain ⟨a3, c3, hv3'⟩ := hd3.slice
      obtain ⟨n3, hn3⟩ : ∃ n3, (rest (fun x => decide (x.1 ≤ now)) P).length = n3 := ⟨_, rfl⟩
      rw [hn3] at hv3'
      subst hv3'
      clear hd3 hv3 hk3 hs3 CD hn3
      go_wp2_with fail
      go_ret
      obtain ⟨hd3, hv3, hk3, hs3⟩ := H3.out
      refine ⟨rfl, ⟨⟨_, ⟨?_, ?_, HO.out⟩, fun g hg => .inl (hv3 ▸ hg)⟩, ?_⟩⟩
      · rw [← HS'.out]
        have e0 : l + dueN ⟨bu, p, m, l, a, si, u, P⟩ now = l + t := by rw [HD.out]
        show Sc _ sb p m (l + dueN ⟨bu, p, m, l, a, si, u, P⟩ now) a si u _
        rw [e0]
        exact (hs3.set6 _).set2 _
      · rw [← HS'.out]
        have kk : Kp w3 ((w3.setCell ⟨sb, 6, none⟩ (.slice a3 n3 c3)).setCell ⟨sb, 2, none⟩ (.int .i64 (l + t))) [sb] := (Kp.setCell w3 ⟨sb, 6, none⟩ _).trans (Kp.setCell _ ⟨sb, 2, none⟩ _)
        exact hd3.kp kk fun g hg e => hd3.apart hs3 (by decide) (by simp only [List.mem_singleton] at e; rw [← e]; exact hg)
      · have kk : Kp w3 ((w3.setCell ⟨sb, 6, none⟩ (.slice a3 n3 c3)).setCell ⟨sb, 2, none⟩ (.int .i64 (l + t))) [sb] := (Kp.setCell w3 ⟨sb, 6, none⟩ _).trans (Kp.setCell _ ⟨sb, 2, none⟩ _)
        exact (KW.out.nil.trans (hk3.mono (by intro k hk _; simp only [List.mem_cons]; exact .inr hk))).trans (kk.mono (by intro k hk _; simp at hk; simp [hk]))
end Go.Proofs.Ytojcmnanapeooaa
