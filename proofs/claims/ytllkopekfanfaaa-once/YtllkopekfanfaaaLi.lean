/- A waiting list that was made here, and lists of numbers beside it. -/
import Derived.Test.YtllkopekfanfaaaCopy
namespace Go.Proofs.Ytllkopekfanfaaa
open Go.RowKit Go.Shelf Go.Lib Go.Sort Go.Maps

theorem take_int {l : List Int} {k : Nat} (hk : k < l.length) : l.take (k + 1) = l.take k ++ [l[k]!] := by
  rw [List.take_add_one, List.getElem?_eq_getElem hk]
  simp [hk]
theorem ns_lit (w : World) (a b c : Int) : Ns (w.alloc (.cells #[.int .i64 a, .int .i64 b, .int .i64 c] 3)) w.heap.size (.slice (some ⟨w.heap.size, 0, none⟩) 3 3) [a, b, c] :=
  ⟨rfl, .inr ⟨w.heap.size, 3, _, rfl, Nat.le_refl _, heap_alloc_new w _, Nat.le_refl _, by unfold maxLen; omega, rfl, rfl⟩⟩

set_option maxRecDepth 100000 in
set_option maxHeartbeats 1000000 in
theorem ints_any (w : World) (b1 b2 : Nat) (v1 v2 : Value) (l1 l2 : List Int) (h1 : Ns w b1 v1 l1) (h2 : Ns w b2 v2 l2) (hl : l1.length ≤ 100000) :
    Calls Try.prog 34 #[v1, v2] w fun e w' => e = .returned (.bool (decide (l1 = l2))) ∧ Kp w w' [] := by
  obtain ⟨ao1, cap1, rfl⟩ := h1.slice
  obtain ⟨ao2, cap2, rfl⟩ := h2.slice
  obtain ⟨N1, hN1⟩ : ∃ N, l1.length = N := ⟨_, rfl⟩
  obtain ⟨N2, hN2⟩ : ∃ N, l2.length = N := ⟨_, rfl⟩
  obtain ⟨B, hB⟩ : ∃ B, decide (l1 = l2) = B := ⟨_, rfl⟩
  rw [hN1] at hl
  rw [hN1, hN2, hB]
  rw [hN1] at h1
  rw [hN2] at h2
  have H := hid (And.intro h1 h2)
  have HN := hid (And.intro hN1 hN2)
  have HB := hid hB
  clear h1 h2 hN1 hN2 hB
  by_cases hn : N1 = N2
  · have hn := hn.symm
    subst hn
    have qn : ((N2 : Int) != N2) = false := by simp
    go_enter Try.func34, Try.ntmps34
    go_wp2_with fail
    go_loopw [5] (fun vi wr => ∃ k : Nat, k ≤ N2 ∧ vi = .int .i64 k ∧ Hid (l1.take k = l2.take k ∧ Kp w wr [])) (fun vi _ => N2 - (intOf vi).toNat)
    case atStart => exact ⟨0, by omega, rfl, hid ⟨by simp, Kp.refl _ _⟩⟩
    case round =>
      obtain ⟨k, hk, rfl, hR⟩ := hrel
      by_cases hlt : k < N2
      · have hltI : (k : Int) < N2 := by omega
        have hk1 : k < l1.length := by have := HN.out; omega
        have hk2 : k < l2.length := by have := HN.out; omega
        obtain ⟨x, hx⟩ : ∃ x, l1[k]! = x := ⟨_, rfl⟩
        obtain ⟨y, hy⟩ : ∃ y, l2[k]! = y := ⟨_, rfl⟩
        obtain ⟨g1, rfl, c1, -⟩ := (H.out.1.keep hR.out.2).at hk1 rfl
        obtain ⟨g2, rfl, d1, -⟩ := (H.out.2.keep hR.out.2).at hk2 rfl
        rw [hx] at c1
        rw [hy] at d1
        have HXY := hid (And.intro hx hy)
        have HKK := hid (And.intro hk1 hk2)
        clear hx hy hk1 hk2
        by_cases hq : x = y
        · have hnq : (x != y) = false := by simp [hq]
          have R2 := hid (show ∀ m, l1.take (k + 1) = l2.take (k + 1) ∧ Kp w (wr.drewN m) [] by
            intro m
            rw [take_int HKK.out.1, take_int HKK.out.2, HXY.out.1, HXY.out.2, hR.out.1, hq]
            exact ⟨rfl, hR.out.2.trans (Kp.drewN _ _ _)⟩)
          clear hq hR
          go_wp2_with fail
          go_quiet (fail)
          go_wp2
          go_roundw
          case rel => exact ⟨k + 1, by omega, by simp, hid (R2.out _)⟩
          case measure => simp [intOf]; omega
        · have hnq : (x != y) = true := by simp [hq]
          have hBf : B = false := by
            rw [← HB.out, decide_eq_false_iff_not]
            rintro rfl
            exact hq (HXY.out.1.symm.trans HXY.out.2)
          subst hBf
          have R2 := hid hR.out.2
          clear hq hR
          go_wp2_with fail
          go_quiet (fail)
          go_wp2
          go_ret
          exact ⟨rfl, R2.out.trans (Kp.drewN _ _ _)⟩
      · have hltI : ¬ (k : Int) < N2 := by omega
        have hBt : B = true := by
          rw [← HB.out, decide_eq_true_iff]
          have h1 := hR.out.1
          rw [List.take_of_length_le (by have := HN.out; omega), List.take_of_length_le (by have := HN.out; omega)] at h1
          exact h1
        subst hBt
        have R2 := hid hR.out.2
        clear hR
        go_wp2
        go_ret
        exact ⟨rfl, R2.out⟩
  · have qn : ((N1 : Int) != N2) = true := by simp; omega
    have hBf : B = false := by
      rw [← HB.out, decide_eq_false_iff_not]
      rintro rfl
      exact hn (by rw [← HN.out.1, ← HN.out.2])
    subst hBf
    go_enter Try.func34, Try.ntmps34
    go_wp2
    go_ret
    exact ⟨rfl, Kp.refl _ _⟩

theorem ns_l3 (w : World) (a b c : Int) : Ns (w.alloc (.cells #[.int .i64 a, .int .i64 b, .int .i64 c] 3)) w.heap.size (.slice (some ⟨w.heap.size, 0, none⟩) 3 3) [a, b, c] :=
  ⟨rfl, .inr ⟨w.heap.size, 3, _, rfl, Nat.le_refl _, heap_alloc_new w _, Nat.le_refl _, by unfold maxLen; omega, rfl, rfl⟩⟩
theorem ns_l1 (w : World) (a : Int) : Ns (w.alloc (.cells #[.int .i64 a] 3)) w.heap.size (.slice (some ⟨w.heap.size, 0, none⟩) 1 1) [a] := Ns.one w a
/-- A list that was made behind w0, and numbers that were told. -/
def Li (w0 W : World) (wb : Nat) (L : List Dl) (ks : List (Value × List Int)) : Prop := ∃ pb V, Wt W wb pb V L ∧ (∀ k ∈ rows wb pb V, w0.heap.size ≤ k) ∧ (∀ x ∈ ks, Ns W w0.heap.size x.1 x.2 ∧ ∀ g, x.1.ownBlock = some g → g ∉ rows wb pb V) ∧ Kp w0 W []
theorem ns_lt {W : World} {base : Nat} {v : Value} {l : List Int} (h : Ns W base v l) {g : Nat} (hg : v.ownBlock = some g) : base ≤ g ∧ g < W.heap.size := ⟨(owns_block h hg).1, lt_of_block (owns_block h hg).2.choose_spec⟩
theorem Li.of_turn {w0 W w' : World} {wb pb : Nat} {V : Value} {L' : List Dl} {ks : List (Value × List Int)} (hr : ∀ k ∈ rows wb pb V, w0.heap.size ≤ k) (hn : ∀ x ∈ ks, Ns W w0.heap.size x.1 x.2 ∧ ∀ g, x.1.ownBlock = some g → g ∉ rows wb pb V) (hk : Kp w0 W []) (hT : Turn W w' wb pb V L') : Li w0 w' wb L' ks := by
  obtain ⟨V', h1, h2, h3⟩ := hT
  have hsz := hk.size
  have hrow : ∀ k, k ∈ rows wb pb V' → k ∈ rows wb pb V ∨ W.heap.size ≤ k := fun k hk => by
    simp only [rows, List.mem_cons, Option.mem_toList] at hk ⊢
    rcases hk with e | e | e
    · exact .inl (.inl e)
    · exact .inl (.inr (.inl e))
    · rcases h2 k e with q | q
      · exact .inl (.inr (.inr q))
      · exact .inr q
  refine ⟨pb, V', h1, fun k hk => ?_, fun x hx => ⟨(hn x hx).1.kp h3 (hn x hx).2, fun g hg hm => ?_⟩, hk.past h3 (fun k hk hl => by have := hr k hk; omega)⟩
  · rcases hrow k hk with q | q
    · exact hr k q
    · omega
  · rcases hrow g hm with q | q
    · exact (hn x hx).2 g hg q
    · have := (ns_lt (hn x hx).1 hg).2; omega
theorem Li.same {w0 W w' : World} {wb : Nat} {L : List Dl} {ks : List (Value × List Int)} (h : Li w0 W wb L ks) (hk : Kp W w' []) : Li w0 w' wb L ks := by
  obtain ⟨pb, V, h1, h2, h3, h4⟩ := h
  exact ⟨pb, V, h1.same hk, h2, fun x hx => ⟨(h3 x hx).1.keep hk, (h3 x hx).2⟩, h4.trans hk⟩
theorem Li.vw {w0 W : World} {wb : Nat} {L : List Dl} {ks : List (Value × List Int)} (h : Li w0 W wb L ks) : Vw W (some ⟨wb, 0, none⟩) L := by
  obtain ⟨pb, V, h1, -⟩ := h
  exact h1.vw
theorem Li.kp {w0 W : World} {wb : Nat} {L : List Dl} {ks : List (Value × List Int)} (h : Li w0 W wb L ks) : Kp w0 W [] := by
  obtain ⟨pb, V, -, -, -, h4⟩ := h
  exact h4
theorem Li.ns {w0 W : World} {wb : Nat} {L : List Dl} {ks : List (Value × List Int)} (h : Li w0 W wb L ks) {x : Value × List Int} (hx : x ∈ ks) : Ns W w0.heap.size x.1 x.2 := by
  obtain ⟨pb, V, -, -, h3, -⟩ := h
  exact (h3 x hx).1
theorem li_new (w : World) : Calls Try.prog 27 #[] w fun e w' => ∃ wb, e = .returned (.pointer (some ⟨wb, 0, none⟩)) ∧ Li w w' wb [] [] := by
  refine (new_any w).mono ?_
  rintro e w' ⟨wb, pb, rfl, h1, h2, h3, h4⟩
  exact ⟨wb, rfl, pb, _, h1, fun k hk => by simp [rows, Value.ownBlock] at hk; omega, by simp, h4⟩
variable {w0 W : World} {wb : Nat} {L : List Dl} {ks : List (Value × List Int)}
theorem Li.put (h : Li w0 W wb L ks) (t p : Int) : Calls Try.prog 48 #[.pointer (some ⟨wb, 0, none⟩), .int .i64 t, .int .i64 p] W fun e w' => e = .returned (.int .i64 (putE L t p)) ∧ Li w0 w' wb (putL L t p) ks := by
  obtain ⟨pb, V, h1, h2, h3, h4⟩ := h
  refine (put_any W wb pb V L t p h1).mono ?_
  rintro e w' ⟨rfl, hT⟩
  exact ⟨rfl, Li.of_turn h2 h3 h4 hT⟩
theorem Li.chg (h : Li w0 W wb L ks) (t p : Int) : Calls Try.prog 54 #[.pointer (some ⟨wb, 0, none⟩), .int .i64 t, .int .i64 p] W fun e w' => e = .returned (.int .i64 (chgE L t p)) ∧ Li w0 w' wb (chgL L t p) ks := by
  obtain ⟨pb, V, h1, h2, h3, h4⟩ := h
  refine (change_any W wb pb V L t p h1).mono ?_
  rintro e w' ⟨rfl, hT⟩
  exact ⟨rfl, Li.of_turn h2 h3 h4 hT⟩
theorem Li.lv (h : Li w0 W wb L ks) (t : Int) : Calls Try.prog 53 #[.pointer (some ⟨wb, 0, none⟩), .int .i64 t] W fun e w' => e = .returned (.int .i64 (lvE L t)) ∧ Li w0 w' wb (lvL L t) ks := by
  obtain ⟨pb, V, h1, h2, h3, h4⟩ := h
  refine (leave_any W wb pb V L t h1).mono ?_
  rintro e w' ⟨rfl, hT⟩
  exact ⟨rfl, Li.of_turn h2 h3 h4 hT⟩
theorem Li.take (h : Li w0 W wb L ks) : Calls Try.prog 47 #[.pointer (some ⟨wb, 0, none⟩)] W fun e w' => e = .returned (.tuple #[.int .i64 (fstT L), .bool (fstB L)]) ∧ Li w0 w' wb (takeL L) ks := by
  obtain ⟨pb, V, h1, h2, h3, h4⟩ := h
  refine (take_any W wb pb V L h1).mono ?_
  rintro e w' ⟨rfl, hT⟩
  exact ⟨rfl, Li.of_turn h2 h3 h4 hT⟩
theorem Li.list (h : Li w0 W wb L ks) : Calls Try.prog 55 #[.pointer (some ⟨wb, 0, none⟩)] W fun e w' => ∃ v, e = .returned v ∧ Li w0 w' wb L ((v, (ordL L).map (·.1)) :: ks) := by
  obtain ⟨pb, V, h1, h2, h3, h4⟩ := h
  refine (list_any W _ L h1.vw).mono ?_
  rintro e w' ⟨v, rfl, hn, hk⟩
  refine ⟨v, rfl, pb, V, h1.same hk, h2, fun x hx => ?_, h4.trans hk⟩
  rcases List.mem_cons.1 hx with rfl | hx
  · refine ⟨hn.low h4.size, fun g hg hm => ?_⟩
    have := (ns_lt hn hg).1
    have := h1.rowslt hm
    omega
  · exact ⟨(h3 x hx).1.keep hk, (h3 x hx).2⟩
theorem Li.first (h : Li w0 W wb L ks) : Calls Try.prog 71 #[.pointer (some ⟨wb, 0, none⟩)] W fun e w' => e = .returned (.tuple #[.int .i64 (fstT L), .bool (fstB L)]) ∧ Li w0 w' wb L ks := by
  refine (first_any W _ L h.vw).mono ?_
  rintro e w' ⟨rfl, hk⟩
  exact ⟨rfl, h.same hk⟩
end Go.Proofs.Ytllkopekfanfaaa
