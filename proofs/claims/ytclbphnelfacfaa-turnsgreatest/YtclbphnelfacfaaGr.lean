/- without, doesOne; what a step lets in its order. -/
import Derived.Test.YtclbphnelfacfaaPlayW
namespace Go.Proofs.Ytclbphnelfacfaa
open Go.RowKit Go.Shelf

/-- A list without a thread. -/
def off (l : List Nat) (t : Int) : List Nat := l.filter (fun x => decide ((x : Int) ≠ t))
theorem off_step {l : List Nat} {i x : Nat} {t : Int} (hx : l[i]? = some x) : off (l.take (i + 1)) t = off (l.take i) t ++ (if (x : Int) ≠ t then [x] else []) := by
  unfold off
  rw [List.take_add_one, hx, List.filter_append]
  congr 1
  by_cases e : (x : Int) = t <;> simp [e]
theorem off_nat (l : List Nat) (T : Nat) : off l (T : Int) = l.filter (fun x => decide (x ≠ T)) := by
  unfold off
  congr 1
  funext x
  congr 1
  simp only [ne_eq, eq_iff_iff]
  omega
theorem off_len (l : List Nat) (t : Int) : (off l t).length ≤ l.length := List.length_filter_le _ _
set_option maxRecDepth 100000 in
set_option maxHeartbeats 2000000 in
theorem without_any (w : World) (b1 : Nat) (V : Value) (l : List Nat) (t : Int) (h : Ns w b1 V l) (hl : l.length ≤ 1000) : Calls Try.prog 21 #[V, .int .i64 t] w fun e w' => (∃ V', e = .returned V' ∧ Ns w' w.heap.size V' (off l t)) ∧ Kp w w' [] := by
  obtain ⟨ao, cap, rfl⟩ := h.slice
  have HN := hid h
  clear h
  go_enter Try.func21, Try.ntmps21
  go_wp2_with fail
  go_loopw [5, 6] (fun v vi wr => ∃ (i : Nat) (ao1 : Option Addr) (n1 cp1 : Nat), i ≤ l.length ∧ v = .slice ao1 n1 cp1 ∧ vi = .int .i64 i ∧ Hid (Ns wr w.heap.size (.slice ao1 n1 cp1) (off (l.take i) t)) ∧ Hid (Kp w wr [])) (fun _ vi _ => l.length - (intOf vi).toNat)
  case atStart => exact ⟨0, none, 0, 0, Nat.zero_le _, rfl, rfl, Ns.nil _ _, Kp.refl _ _⟩
  case round =>
    obtain ⟨i, ao1, n1, cp1, hi, rfl, rfl, hN1, hK1⟩ := hrel
    by_cases hil : i < l.length
    · have hilI : (i : Int) < (l.length : Int) := by omega
      have hx : l[i]? = some l[i] := List.getElem?_eq_getElem hil
      obtain ⟨x, hxe⟩ : ∃ x, l[i] = x := ⟨_, rfl⟩
      rw [hxe] at hx
      obtain ⟨g, rfl, -, -, cx⟩ := (HN.out.keep hK1.out).at hx
      have HX := hid (off_step (t := t) hx)
      have hle : (off (l.take i) t).length ≤ 1000 := by
        have h1 := off_len (l.take i) t
        have h2 := List.length_take_le i l
        omega
      clear hx hxe
      obtain ⟨fl, hfl⟩ : ∃ fl, off (l.take i) t = fl := ⟨_, rfl⟩
      rw [hfl] at HX hle hN1
      clear hfl
      by_cases hxt : (x : Int) = t
      · have hne : ((x : Int) != t) = false := by simp [hxt]
        have HE := hid (show off (l.take (i + 1)) t = fl by rw [HX.out]; simp [hxt])
        clear hxt HX
        go_wp2
        go_roundw
        case rel => exact ⟨i + 1, ao1, n1, cp1, by omega, rfl, by simp, by rw [HE.out]; exact hN1.out, hK1⟩
        case measure => simp [intOf]; omega
      · have hne : ((x : Int) != t) = true := by simp [hxt]
        have HE := hid (show off (l.take (i + 1)) t = fl ++ [x] by rw [HX.out]; simp [hxt])
        clear hxt HX
        have hsz : w.heap.size ≤ wr.heap.size := hK1.out.size
        go_wp2_with (refine wpList_push rfl (.tmp 19) (.tmp 24) rfl w.heap.size (.slice ao1 n1 cp1) fl x rfl hN1.out rfl (by omega) hsz ?_; intro v2 w2 hN2 hG2; obtain ⟨ao2, cp2, hv2⟩ := hN2.slice; rw [List.length_append, List.length_cons, List.length_nil, Nat.zero_add] at hv2; subst hv2; have K2 := hid (grown_kp hN1.out hG2 hK1.out (Nat.le_refl _)); have N2 := hid hN2; clear hN2 hG2)
        go_roundw
        case rel => exact ⟨i + 1, ao2, fl.length + 1, cp2, by omega, rfl, by simp, by rw [HE.out]; exact N2.out, K2⟩
        case measure => simp [intOf]; omega
    · have hilI : ¬ (i : Int) < (l.length : Int) := by omega
      have hV := hN1.out
      rw [List.take_of_length_le (by omega)] at hV
      have HS := hid hV
      clear hV
      go_wp2
      go_ret
      exact ⟨⟨_, rfl, HS.out⟩, hK1.out⟩

/-! ### What a step lets -/
section
variable {L : Ls}
theorem off_cut (T p : Nat) : off (updL L (prN L T 31) ((L (prN L T 31)).filter (fun x => decide (x ≠ T))) p) T = off (L p) T := by
  by_cases e : p = prN L T 31
  · rw [e, updL_same, off_nat, off_nat, List.filter_filter]
    simp
  · rw [updL_ne _ _ e]
theorem off_in (b : Bool) (P T p : Nat) : off (updL L P (if b then T :: L P else L P ++ [T]) p) T = off (L p) T := by
  by_cases e : p = P
  · subst e
    rw [updL_same, off_nat, off_nat]
    cases b <;> simp
  · rw [updL_ne _ _ e]
theorem off_go (h : okL L) {T P : Nat} (ht : T < 16) (p1 : 1 ≤ P) (p2 : P ≤ 31) (b : Bool) (p : Nat) : off (goL b L T P p) T = off (L p) T := by
  rw [go_eq h ht p1 p2 b, off_in, off_cut]
theorem off_rem (t : Int) (p : Nat) : off (remL L t p) t = off (L p) t := by
  rcases rem_cases L t with ⟨-, -, e⟩ | ⟨T, rfl, t1, ⟨-, -, e⟩ | ⟨-, -, e⟩⟩
  · rw [e]
  · rw [e]
  · rw [e, off_cut]
theorem off_yi (h : okL L) (t : Int) (p : Nat) : off (yiL L t p) t = off (L p) t := by
  unfold yiL
  rcases rem_cases L t with ⟨-, e, -⟩ | ⟨T, rfl, t1, ⟨-, e, -⟩ | ⟨h0, e, -⟩⟩
  · rw [e]; rfl
  · rw [e]; rfl
  · rw [e, if_pos rfl, prI_nat]
    have := prN_le L T 31
    exact off_go h t1 (by omega) this false p
/-- mvE is nought: a thread, and a priority. -/
theorem mv_ok {t p : Int} (h : mvE L t p = 0) : ∃ T P : Nat, t = T ∧ p = P ∧ T < 16 ∧ 1 ≤ P ∧ P ≤ 31 := by
  unfold mvE at h
  by_cases hp : 1 ≤ p ∧ p ≤ 31
  · rw [if_pos hp] at h
    rcases rem_cases L t with ⟨-, e, -⟩ | ⟨T, rfl, t1, -⟩
    · rw [e] at h; cases h
    · exact ⟨T, p.toNat, rfl, by omega, t1, by omega, by omega⟩
  · rw [if_neg hp] at h; cases h
theorem off_step_all (h : okL L) (S : Sh) (k t p : Int) (x : Nat) : off (stL L S k t p x) (if k = 4 then ((fstV L : Nat) : Int) else t) = off (L x) (if k = 4 then ((fstV L : Nat) : Int) else t) := by
  unfold stL
  by_cases k1 : k = 1
  · rw [if_pos k1, if_neg (by omega)]
    rcases put_cases false L p t with ⟨-, -, e⟩ | ⟨P, T, rfl, rfl, -, -, -, ⟨-, -, e⟩ | ⟨-, -, e⟩⟩
    · rw [e]
    · rw [e]
    · rw [e, off_in]
  rw [if_neg k1]
  by_cases k2 : k = 2
  · rw [if_pos k2, if_neg (by omega)]
    exact off_rem t x
  rw [if_neg k2]
  by_cases k3 : k = 3
  · rw [if_pos k3, if_neg (by omega)]
    exact off_yi h t x
  rw [if_neg k3]
  by_cases k4 : k = 4
  · rw [if_pos k4, if_pos k4]
    unfold tkL
    split
    · exact off_yi h _ x
    · rfl
  rw [if_neg k4, if_neg k4]
  by_cases k5 : k = 5
  · rw [if_pos k5]
    unfold puL
    split
    · rename_i he
      obtain ⟨T, P, rfl, rfl, t1, p1, p2⟩ := mv_ok he
      exact off_go h t1 p1 p2 false x
    · rfl
  rw [if_neg k5]
  by_cases k6 : k = 6
  · rw [if_pos k6]
    unfold moL
    split
    · rename_i he
      obtain ⟨T, P, rfl, rfl, t1, p1, p2⟩ := mv_ok he
      unfold moveTo
      split
      · exact off_go h t1 p1 p2 false x
      split
      · exact off_go h t1 p1 p2 true x
      · rfl
    · rfl
  rw [if_neg k6]
  by_cases k7 : k = 7
  · rw [if_pos k7]
    unfold liL
    split
    · rename_i he
      obtain ⟨T, P, rfl, rfl, t1, p1, p2⟩ := mv_ok he
      unfold liftTo
      split
      · exact off_go h t1 p1 p2 true x
      · rfl
    · rfl
  rw [if_neg k7]
end
section
variable {w w' : World} {xb rb q s : Nat} {S : Sh} {L : Ls}
set_option maxRecDepth 100000 in
set_option maxHeartbeats 2000000 in
theorem one_any (k t p : Int) (r : Bool) (h : Tn w xb rb q S L s) (hs : s ≤ 870000) : Calls Try.prog 19 #[.pointer (some ⟨xb, 0, none⟩), .agg #[.int .i64 k, .int .i64 t, .int .i64 p, .bool r]] w fun e w' => (∃ v, e = .returned v) ∧ To w w' xb rb q (stS q L S k t p r) (stL L S k t p) s 20 := by
  have K0 := hid (Kp.alloc w (.cells #[.int .i64 k, .int .i64 t, .int .i64 p, .bool r] 32) [])
  have H := hid (h.same K0.out)
  obtain ⟨c0, c1, c2, c3⟩ := cell4 w (.int .i64 k) (.int .i64 t) (.int .i64 p) (.bool r)
  clear h
  by_cases k1 : k = 1
  · have kt : (k == 1) = true := by simp [k1]
    have eL : stL L S k t p = putL false L p t := by simp [stL, k1]
    have eS : stS q L S k t p r = addS q S L t p r := by simp [stS, k1]
    rw [eL, eS]
    clear eL eS k1
    go_enter Try.func19, Try.ntmps19
    go_wp2_with fail
    refine (H.out.add (by omega) t p r).mono ?_
    rintro e z1 ⟨rfl, hT1⟩
    have T1 := hid (To.new K0.out (hT1.more (by omega : _ ≤ 20)))
    clear hT1
    go_wp2
    go_end0
    exact ⟨⟨_, rfl⟩, T1.out⟩
  by_cases k2 : k = 2
  · have kt : (k == 2) = true := by simp [k2]
    have kf1 : (k == 1) = false := by simp [k1]
    have eL : stL L S k t p = remL L t := by simp [stL, k2]
    have eS : stS q L S k t p r = lvS S L t := by simp [stS, k2]
    rw [eL, eS]
    clear eL eS k2 k1
    go_enter Try.func19, Try.ntmps19
    go_wp2_with fail
    refine (H.out.leave (by omega) t).mono ?_
    rintro e z1 ⟨rfl, hT1⟩
    have T1 := hid (To.new K0.out (hT1.more (by omega : _ ≤ 20)))
    clear hT1
    go_wp2
    go_end0
    exact ⟨⟨_, rfl⟩, T1.out⟩
  by_cases k3 : k = 3
  · have kt : (k == 3) = true := by simp [k3]
    have kf1 : (k == 1) = false := by simp [k1]
    have kf2 : (k == 2) = false := by simp [k2]
    have eL : stL L S k t p = yiL L t := by simp [stL, k3]
    have eS : stS q L S k t p r = S := by simp [stS, k3]
    rw [eL, eS]
    clear eL eS k3 k1 k2
    go_enter Try.func19, Try.ntmps19
    go_wp2_with fail
    refine (H.out.yield (by omega) t).mono ?_
    rintro e z1 ⟨rfl, hT1⟩
    have T1 := hid (To.new K0.out (hT1.more (by omega : _ ≤ 20)))
    clear hT1
    go_wp2
    go_end0
    exact ⟨⟨_, rfl⟩, T1.out⟩
  by_cases k4 : k = 4
  · have kt : (k == 4) = true := by simp [k4]
    have kf1 : (k == 1) = false := by simp [k1]
    have kf2 : (k == 2) = false := by simp [k2]
    have kf3 : (k == 3) = false := by simp [k3]
    have eL : stL L S k t p = tkL L S := by simp [stL, k4]
    have eS : stS q L S k t p r = tkS q L S := by simp [stS, k4]
    rw [eL, eS]
    clear eL eS k4 k1 k2 k3
    go_enter Try.func19, Try.ntmps19
    go_wp2_with fail
    refine (H.out.tick (by omega)).mono ?_
    rintro e z1 ⟨rfl, hT1⟩
    have T1 := hid (To.new K0.out (hT1.more (by omega : _ ≤ 20)))
    clear hT1
    go_wp2
    go_end0
    exact ⟨⟨_, rfl⟩, T1.out⟩
  by_cases k5 : k = 5
  · have kt : (k == 5) = true := by simp [k5]
    have kf1 : (k == 1) = false := by simp [k1]
    have kf2 : (k == 2) = false := by simp [k2]
    have kf3 : (k == 3) = false := by simp [k3]
    have kf4 : (k == 4) = false := by simp [k4]
    have eL : stL L S k t p = puL L t p := by simp [stL, k5]
    have eS : stS q L S k t p r = puS q S L t p r := by simp [stS, k5]
    rw [eL, eS]
    clear eL eS k5 k1 k2 k3 k4
    go_enter Try.func19, Try.ntmps19
    go_wp2_with fail
    refine (H.out.put (by omega) t p r).mono ?_
    rintro e z1 ⟨rfl, hT1⟩
    have T1 := hid (To.new K0.out (hT1.more (by omega : _ ≤ 20)))
    clear hT1
    go_wp2
    go_end0
    exact ⟨⟨_, rfl⟩, T1.out⟩
  by_cases k6 : k = 6
  · have kt : (k == 6) = true := by simp [k6]
    have kf1 : (k == 1) = false := by simp [k1]
    have kf2 : (k == 2) = false := by simp [k2]
    have kf3 : (k == 3) = false := by simp [k3]
    have kf4 : (k == 4) = false := by simp [k4]
    have kf5 : (k == 5) = false := by simp [k5]
    have eL : stL L S k t p = moL L t p := by simp [stL, k6]
    have eS : stS q L S k t p r = S := by simp [stS, k6]
    rw [eL, eS]
    clear eL eS k6 k1 k2 k3 k4 k5
    go_enter Try.func19, Try.ntmps19
    go_wp2_with fail
    refine (H.out.move (by omega) t p).mono ?_
    rintro e z1 ⟨rfl, hT1⟩
    have T1 := hid (To.new K0.out (hT1.more (by omega : _ ≤ 20)))
    clear hT1
    go_wp2
    go_end0
    exact ⟨⟨_, rfl⟩, T1.out⟩
  by_cases k7 : k = 7
  · have kt : (k == 7) = true := by simp [k7]
    have kf1 : (k == 1) = false := by simp [k1]
    have kf2 : (k == 2) = false := by simp [k2]
    have kf3 : (k == 3) = false := by simp [k3]
    have kf4 : (k == 4) = false := by simp [k4]
    have kf5 : (k == 5) = false := by simp [k5]
    have kf6 : (k == 6) = false := by simp [k6]
    have eL : stL L S k t p = liL L t p := by simp [stL, k7]
    have eS : stS q L S k t p r = S := by simp [stS, k7]
    rw [eL, eS]
    clear eL eS k7 k1 k2 k3 k4 k5 k6
    go_enter Try.func19, Try.ntmps19
    go_wp2_with fail
    refine (H.out.lift (by omega) t p).mono ?_
    rintro e z1 ⟨rfl, hT1⟩
    have T1 := hid (To.new K0.out (hT1.more (by omega : _ ≤ 20)))
    clear hT1
    go_wp2
    go_end0
    exact ⟨⟨_, rfl⟩, T1.out⟩
  have hn : stL L S k t p = L ∧ stS q L S k t p r = S := by simp [stL, stS, k1, k2, k3, k4, k5, k6, k7]
  rw [hn.1, hn.2]
  have kf1 : (k == 1) = false := by simp [k1]
  have kf2 : (k == 2) = false := by simp [k2]
  have kf3 : (k == 3) = false := by simp [k3]
  have kf4 : (k == 4) = false := by simp [k4]
  have kf5 : (k == 5) = false := by simp [k5]
  have kf6 : (k == 6) = false := by simp [k6]
  have kf7 : (k == 7) = false := by simp [k7]
  clear hn k1 k2 k3 k4 k5 k6 k7
  have T1 := hid (To.new K0.out ((To.refl H.out).more (show 0 ≤ 20 by omega)))
  go_enter Try.func19, Try.ntmps19
  go_wp2
  go_end0
  exact ⟨⟨_, rfl⟩, T1.out⟩
end
end Go.Proofs.Ytclbphnelfacfaa
