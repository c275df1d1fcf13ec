/- known: the chapter's rows. -/
import Derived.Test.YtpkaeanagdhmiaaSw
namespace Go.Proofs.Ytpkaeanagdhmiaa
open Go.RowKit Go.Shelf Go.Lib Go.Sort Go.Maps
attribute [local go_sem] Oper.semAt_some

/-- A semaphore and a barrier, both made behind w0, and lists of numbers beside. -/
def Kw (w0 W : World) (sb : Nat) (v : Int) (L : List Dl) (bb : Nat) (n : Int) (M : List Dl) (ks : List (Value × List Int)) : Prop :=
  ∃ R1 R2, Sm 74 W sb R1 v L ∧ Sm 76 W bb R2 n M ∧ (∀ k ∈ R1, k ∉ R2) ∧ (∀ k ∈ R1, w0.heap.size ≤ k) ∧ (∀ k ∈ R2, w0.heap.size ≤ k) ∧ (∀ x ∈ ks, Ns W w0.heap.size x.1 x.2 ∧ ∀ g, x.1.ownBlock = some g → g ∉ R1 ∧ g ∉ R2) ∧ Kp w0 W []
variable {w0 W : World} {sb bb : Nat} {v n : Int} {L M : List Dl} {ks : List (Value × List Int)}
theorem ns_far {W : World} {base : Nat} {v : Value} {l : List Int} (h : Ns W base v l) {g : Nat} (hg : v.ownBlock = some g) : base ≤ g ∧ g < W.heap.size := ⟨(owns_block h hg).1, lt_of_block (owns_block h hg).2.choose_spec⟩
theorem Kw.kp (h : Kw w0 W sb v L bb n M ks) : Kp w0 W [] := by
  obtain ⟨R1, R2, -, -, -, -, -, -, h⟩ := h
  exact h
theorem Kw.same {w' : World} (h : Kw w0 W sb v L bb n M ks) (hk : Kp W w' []) : Kw w0 w' sb v L bb n M ks := by
  obtain ⟨R1, R2, h1, h2, h3, h4, h5, h6, h7⟩ := h
  exact ⟨R1, R2, h1.same hk, h2.same hk, h3, h4, h5, fun x hx => ⟨(h6 x hx).1.keep hk, (h6 x hx).2⟩, h7.trans hk⟩
theorem Kw.drop {x : Value × List Int} (h : Kw w0 W sb v L bb n M (x :: ks)) : Kw w0 W sb v L bb n M ks := by
  obtain ⟨R1, R2, h1, h2, h3, h4, h5, h6, h7⟩ := h
  exact ⟨R1, R2, h1, h2, h3, h4, h5, fun x hx => h6 x (by simp [hx]), h7⟩
theorem Kw.ns (h : Kw w0 W sb v L bb n M ks) {x : Value × List Int} (hx : x ∈ ks) : Ns W w0.heap.size x.1 x.2 := by
  obtain ⟨R1, R2, -, -, -, -, -, h6, -⟩ := h
  exact (h6 x hx).1
theorem Kw.s (h : Kw w0 W sb v L bb n M ks) : ∃ R, Sm 74 W sb R v L ∧ ∀ (w' : World) (v' : Int) (L' : List Dl), To 74 W w' sb R v' L' → Kw w0 w' sb v' L' bb n M ks := by
  obtain ⟨R1, R2, h1, h2, h3, h4, h5, h6, h7⟩ := h
  refine ⟨R1, h1, fun w' v' L' ⟨R', s, nw, k⟩ => ⟨R', R2, s, h2.keep k (fun x hx hm => h3 x hm hx), fun x hx hm => ?_, fun x hx => ?_, h5, fun x hx => ⟨(h6 x hx).1.kp k (fun g hg => ((h6 x hx).2 g hg).1), fun g hg => ⟨fun hm => ?_, ((h6 x hx).2 g hg).2⟩⟩, h7.past k (fun x hx hl => by have := h4 x hx; omega)⟩⟩
  · rcases nw x hx with q | q
    · exact h3 x q hm
    · have := h2.lt x hm; omega
  · rcases nw x hx with q | q
    · exact h4 x q
    · have := h7.size; omega
  · rcases nw g hm with q | q
    · exact ((h6 x hx).2 g hg).1 q
    · have := (ns_far (h6 x hx).1 hg).2; omega
theorem Kw.b (h : Kw w0 W sb v L bb n M ks) : ∃ R, Sm 76 W bb R n M ∧ ∀ (w' : World) (n' : Int) (M' : List Dl), To 76 W w' bb R n' M' → Kw w0 w' sb v L bb n' M' ks := by
  obtain ⟨R1, R2, h1, h2, h3, h4, h5, h6, h7⟩ := h
  refine ⟨R2, h2, fun w' v' L' ⟨R', s, nw, k⟩ => ⟨R1, R', h1.keep k (fun x hx hm => h3 x hx hm), s, fun x hx hm => ?_, h4, fun x hx => ?_, fun x hx => ⟨(h6 x hx).1.kp k (fun g hg => ((h6 x hx).2 g hg).2), fun g hg => ⟨((h6 x hx).2 g hg).1, fun hm => ?_⟩⟩, h7.past k (fun x hx hl => by have := h5 x hx; omega)⟩⟩
  · rcases nw x hm with q | q
    · exact h3 x hx q
    · have := h1.lt x hx; omega
  · rcases nw x hx with q | q
    · exact h5 x q
    · have := h7.size; omega
  · rcases nw g hm with q | q
    · exact ((h6 x hx).2 g hg).2 q
    · have := (ns_far (h6 x hx).1 hg).2; omega
theorem Kw.wait (h : Kw w0 W sb v L bb n M ks) (hv : Sok v L) (t p : Int) (B : Bool) (E v' : Int) (L' : List Dl) (e1 : waB v L t p = B) (e2 : putE L t p = E) (e3 : waV v L t p = v') (e4 : waL v L t p = L') : Calls Try.prog 28 #[.pointer (some ⟨sb, 0, none⟩), .int .i64 t, .int .i64 p] W fun e w' => e = .returned (.tuple #[.bool B, .int .i64 E]) ∧ Kw w0 w' sb v' L' bb n M ks := by
  obtain ⟨R, hs, hf⟩ := h.s
  refine (swait W sb R v L t p hs hv).mono ?_
  rintro e w' ⟨rfl, hT⟩
  rw [e3, e4] at hT
  exact ⟨by rw [e1, e2], hf _ _ _ hT⟩
theorem Kw.post (h : Kw w0 W sb v L bb n M ks) (hv : Sok v L) (T E v' : Int) (L' : List Dl) (e1 : poT L = T) (e2 : poE v L = E) (e3 : poV v L = v') (e4 : takeL L = L') : Calls Try.prog 30 #[.pointer (some ⟨sb, 0, none⟩)] W fun e w' => e = .returned (.tuple #[.int .i64 T, .int .i64 E]) ∧ Kw w0 w' sb v' L' bb n M ks := by
  obtain ⟨R, hs, hf⟩ := h.s
  refine (spost W sb R v L hs hv).mono ?_
  rintro e w' ⟨rfl, hT⟩
  rw [e3, e4] at hT
  exact ⟨by rw [e1, e2], hf _ _ _ hT⟩
theorem Kw.change (h : Kw w0 W sb v L bb n M ks) (t p : Int) (E : Int) (L' : List Dl) (e1 : chgE L t p = E) (e2 : chgL L t p = L') : Calls Try.prog 32 #[.pointer (some ⟨sb, 0, none⟩), .int .i64 t, .int .i64 p] W fun e w' => e = .returned (.int .i64 E) ∧ Kw w0 w' sb v L' bb n M ks := by
  obtain ⟨R, hs, hf⟩ := h.s
  refine (schange W sb R v L t p hs).mono ?_
  rintro e w' ⟨rfl, hT⟩
  rw [e2] at hT
  exact ⟨by rw [e1], hf _ _ _ hT⟩
theorem Kw.leave (h : Kw w0 W sb v L bb n M ks) (t : Int) (E : Int) (L' : List Dl) (e1 : lvE L t = E) (e2 : lvL L t = L') : Calls Try.prog 31 #[.pointer (some ⟨sb, 0, none⟩), .int .i64 t] W fun e w' => e = .returned (.int .i64 E) ∧ Kw w0 w' sb v L' bb n M ks := by
  obtain ⟨R, hs, hf⟩ := h.s
  refine (sleave W sb R v L t hs).mono ?_
  rintro e w' ⟨rfl, hT⟩
  rw [e2] at hT
  exact ⟨by rw [e1], hf _ _ _ hT⟩
theorem Kw.bleave (h : Kw w0 W sb v L bb n M ks) (t : Int) (E : Int) (M' : List Dl) (e1 : lvE M t = E) (e2 : lvL M t = M') : Calls Try.prog 34 #[.pointer (some ⟨bb, 0, none⟩), .int .i64 t] W fun e w' => e = .returned (.int .i64 E) ∧ Kw w0 w' sb v L bb n M' ks := by
  obtain ⟨R, hs, hf⟩ := h.b
  refine (Go.Proofs.Ytpkaeanagdhmiaa.bleave W bb R n M t hs).mono ?_
  rintro e w' ⟨rfl, hT⟩
  rw [e2] at hT
  exact ⟨by rw [e1], hf _ _ _ hT⟩
theorem Kw.list (h : Kw w0 W sb v L bb n M ks) (l : List Int) (e1 : (ordL L).map (·.1) = l) : Calls Try.prog 16 #[.pointer (some ⟨sb, 0, none⟩)] W fun e w' => ∃ ao cap, e = .returned (.slice ao l.length cap) ∧ Kw w0 w' sb v L bb n M ((.slice ao l.length cap, l) :: ks) := by
  obtain ⟨R1, R2, h1, h2, h3, h4, h5, h6, h7⟩ := h
  refine (slist W _ R1 v L h1.sv).mono ?_
  rintro e w' ⟨x, rfl, hx, hk⟩
  rw [e1] at hx
  obtain ⟨ao, cap, rfl⟩ := hx.slice
  refine ⟨ao, cap, rfl, R1, R2, h1.same hk, h2.same hk, h3, h4, h5, fun y hy => ?_, h7.trans hk⟩
  rcases List.mem_cons.1 hy with rfl | hy
  · refine ⟨hx.low h7.size, fun g hg => ?_⟩
    have := (ns_far hx hg).1
    exact ⟨fun hm => by have := h1.lt g hm; omega, fun hm => by have := h2.lt g hm; omega⟩
  · exact ⟨(h6 y hy).1.keep hk, (h6 y hy).2⟩
theorem Kw.bwait (h : Kw w0 W sb v L bb n M ks) (hv : Bok n M) (t p : Int) (E : Int) (l : List Int) (M' : List Dl) (e1 : putE M t p = E) (e2 : baO n M t p = l) (e3 : baL n M t p = M') : Calls Try.prog 33 #[.pointer (some ⟨bb, 0, none⟩), .int .i64 t, .int .i64 p] W fun e w' => ∃ ao cap, e = .returned (.tuple #[.slice ao l.length cap, .int .i64 E]) ∧ Kw w0 w' sb v L bb n M' ((.slice ao l.length cap, l) :: ks) := by
  obtain ⟨R1, R2, h1, h2, h3, h4, h5, h6, h7⟩ := h
  refine (Go.Proofs.Ytpkaeanagdhmiaa.bwait W bb R2 n M t p h2 hv).mono ?_
  rintro e w' ⟨x, rfl, hx, R', s, nw, k, hfar⟩
  rw [e2] at hx
  rw [e3] at s
  obtain ⟨ao, cap, rfl⟩ := hx.slice
  refine ⟨ao, cap, by rw [e1], R1, R', h1.keep k (fun x hx hm => h3 x hx hm), s, fun x hx hm => ?_, h4, fun x hx => ?_, fun y hy => ?_, h7.past k (fun x hx hl => by have := h5 x hx; omega)⟩
  · rcases nw x hm with q | q
    · exact h3 x hx q
    · have := h1.lt x hx; omega
  · rcases nw x hx with q | q
    · exact h5 x q
    · have := h7.size; omega
  · rcases List.mem_cons.1 hy with rfl | hy
    · refine ⟨hx.low h7.size, fun g hg => ⟨fun hm => ?_, hfar g hg⟩⟩
      have := (ns_far hx hg).1
      have := h1.lt g hm
      omega
    · refine ⟨(h6 y hy).1.kp k (fun g hg => ((h6 y hy).2 g hg).2), fun g hg => ⟨((h6 y hy).2 g hg).1, fun hm => ?_⟩⟩
      rcases nw g hm with q | q
      · exact ((h6 y hy).2 g hg).2 q
      · have := (ns_far (h6 y hy).1 hg).2; omega
theorem Kw.val (h : Kw w0 W sb v L bb n M ks) : Calls Try.prog 13 #[.pointer (some ⟨sb, 0, none⟩)] W fun e w' => e = .returned (.int .i64 v) ∧ w' = W := by
  obtain ⟨R, hs, -⟩ := h.s
  exact sval W _ R v L hs.sv
theorem Kw.blen (h : Kw w0 W sb v L bb n M ks) : Calls Try.prog 22 #[.pointer (some ⟨bb, 0, none⟩)] W fun e w' => e = .returned (.int .i64 M.length) ∧ w' = W := by
  obtain ⟨R, hs, -⟩ := h.b
  exact Go.Proofs.Ytpkaeanagdhmiaa.blen W _ R n M hs.sv
theorem kw_new {w1 w2 : World} {R1 R2 : List Nat} (h1 : Sm 74 w1 sb R1 v L) (f1 : ∀ k ∈ R1, w0.heap.size ≤ k) (k1 : Kp w0 w1 []) (h2 : Sm 76 w2 bb R2 n M) (f2 : ∀ k ∈ R2, w1.heap.size ≤ k) (k2 : Kp w1 w2 []) : Kw w0 w2 sb v L bb n M [] :=
  ⟨R1, R2, h1.same k2, h2, fun k hk hm => by have := h1.lt k hk; have := f2 k hm; omega, f1, fun k hk => by have := f2 k hk; have := k1.size; omega, fun x hx => by simp at hx, k1.trans k2⟩
theorem ns_l2 (w : World) (a b : Int) : Ns (w.alloc (.cells #[.int .i64 a, .int .i64 b] 3)) w.heap.size (.slice (some ⟨w.heap.size, 0, none⟩) 2 2) [a, b] :=
  ⟨rfl, .inr ⟨w.heap.size, 2, _, rfl, Nat.le_refl _, heap_alloc_new w _, Nat.le_refl _, by unfold maxLen; omega, rfl, rfl⟩⟩
/-- What Post does, by the order. -/
theorem po_yes (L Z R : List Dl) (v t : Int) (h : ordK L 31 = Z) (ht : (Z.headD (0, 0)).1 = t) (hb : (!Z.isEmpty) = true) (hr : delP L t = R) : poT L = t ∧ poE v L = 0 ∧ poV v L = v ∧ takeL L = R := by
  obtain ⟨h1, h2, h3⟩ := take_eq L Z R h t ht hb hr
  unfold poT poE poV
  rw [h2]
  exact ⟨h1, rfl, rfl, h3⟩
theorem po_no (v : Int) (hv : v ≠ 32767) : poT [] = -1 ∧ poE v [] = 0 ∧ poV v [] = v + 1 ∧ takeL [] = [] := by
  unfold poT poE poV takeL
  rw [fst_nil.2]
  simp [hv]
theorem po_full : poT [] = -1 ∧ poE 32767 [] = 5 ∧ poV 32767 [] = 32767 ∧ takeL [] = [] := by
  unfold poT poE poV takeL
  rw [fst_nil.2]
  simp
set_option maxRecDepth 100000 in
set_option maxHeartbeats 4000000 in
theorem known_any (w : World) : Calls Try.prog 11 #[] w fun e w' => e = .returned (.bool true) ∧ Kp w w' [] := by
  go_enter Try.func11, Try.ntmps11
  go_wp2_with fail
  refine (snew w 1 (by decide) (by decide)).mono ?_
  rintro e w1 ⟨sb, R1, rfl, h1, h2, h3⟩
  have H1 := hid (And.intro h1 (And.intro h2 h3))
  clear h1 h2 h3
  go_wp2_with fail
  refine (bnew w1 3 (by decide) (by decide)).mono ?_
  rintro e w2 ⟨bb, R2, rfl, h1, h2, h3⟩
  have H := hid (kw_new H1.out.1 H1.out.2.1 H1.out.2.2 h1 h2 h3)
  clear h1 h2 h3 H1
  go_wp2_with fail
  refine (H.out.wait ⟨by decide, by decide, fun _ => rfl⟩ 1 5 true 0 0 [] (by decide +kernel) (by decide +kernel) (by decide +kernel) (by decide +kernel)).mono ?_
  rintro e w3 ⟨rfl, hl⟩
  have H := hid hl
  clear hl
  go_wp2_with fail
  refine (H.out.wait ⟨by decide, by decide, fun h => absurd h (by decide)⟩ 2 5 false 0 0 [(2, 5)] (by decide +kernel) (by decide +kernel) (by decide +kernel) (by decide +kernel)).mono ?_
  rintro e w4 ⟨rfl, hl⟩
  have H := hid hl
  clear hl
  go_wp2_with fail
  refine (H.out.wait ⟨by decide, by decide, fun h => absurd h (by decide)⟩ 3 9 false 0 0 [(2, 5), (3, 9)] (by decide +kernel) (by decide +kernel) (by decide +kernel) (by decide +kernel)).mono ?_
  rintro e w5 ⟨rfl, hl⟩
  have H := hid hl
  clear hl
  go_wp2_with fail
  refine (H.out.wait ⟨by decide, by decide, fun h => absurd h (by decide)⟩ 2 5 false 7 0 [(2, 5), (3, 9)] (by decide +kernel) (by decide +kernel) (by decide +kernel) (by decide +kernel)).mono ?_
  rintro e w6 ⟨rfl, hl⟩
  have H := hid hl
  clear hl
  go_wp2_with fail
  refine (H.out.list [3, 2] (keys_eq _ _ (by decide +kernel))).mono ?_
  rintro e w7 ⟨lo, lc, rfl, hl⟩
  have H := hid hl
  clear hl
  go_wp2_with fail
  have q8 := po_yes [(2, 5), (3, 9)] [(3, 9), (2, 5)] [(2, 5)] 0 3 (by decide +kernel) (by decide +kernel) (by decide +kernel) (by decide +kernel)
  refine (H.out.post ⟨by decide, by decide, fun h => absurd h (by decide)⟩ 3 0 0 [(2, 5)] q8.1 q8.2.1 q8.2.2.1 q8.2.2.2).mono ?_
  rintro e w8 ⟨rfl, hl⟩
  have H := hid hl
  clear hl
  go_wp2_with fail
  refine (H.out.change 2 1 0 [(2, 1)] (by decide +kernel) (by decide +kernel)).mono ?_
  rintro e w9 ⟨rfl, hl⟩
  have H := hid hl
  clear hl
  go_wp2_with fail
  have q10 := po_yes [(2, 1)] [(2, 1)] [] 0 2 (by decide +kernel) (by decide +kernel) (by decide +kernel) (by decide +kernel)
  refine (H.out.post ⟨by decide, by decide, fun h => absurd h (by decide)⟩ 2 0 0 [] q10.1 q10.2.1 q10.2.2.1 q10.2.2.2).mono ?_
  rintro e w10 ⟨rfl, hl⟩
  have H := hid hl
  clear hl
  go_wp2_with fail
  have q11 := po_no 0 (by decide)
  refine (H.out.post ⟨by decide, by decide, fun h => absurd h (by decide)⟩ (-1) 0 1 [] q11.1 q11.2.1 q11.2.2.1 q11.2.2.2).mono ?_
  rintro e w11 ⟨rfl, hl⟩
  have H := hid hl
  clear hl
  go_wp2_with fail
  refine (snew_no _ 32768 (.inr (by decide))).mono ?_
  rintro e wx ⟨rfl, hw⟩; obtain rfl := hw.symm
  go_wp2_with fail
  refine (bnew_no _ 0 (.inl (by decide))).mono ?_
  rintro e wx ⟨rfl, hw⟩; obtain rfl := hw.symm
  go_wp2_with fail
  refine (bnew_no _ 17 (.inr (by decide))).mono ?_
  rintro e wx ⟨rfl, hw⟩; obtain rfl := hw.symm
  go_wp2_with fail
  refine (H.out.bwait ⟨by decide, by decide, by decide⟩ 1 5 0 [] [(1, 5)] (by decide +kernel) (by unfold baO; rw [if_neg (by decide)]) (by decide +kernel)).mono ?_
  rintro e w12 ⟨uo, uc, rfl, hl⟩
  have H := hid hl
  clear hl
  go_wp2_with fail
  refine (H.out.bwait ⟨by decide, by decide, by decide⟩ 2 9 0 [] [(1, 5), (2, 9)] (by decide +kernel) (by unfold baO; rw [if_neg (by decide)]) (by decide +kernel)).mono ?_
  rintro e w13 ⟨vo, vc, rfl, hl⟩
  have H := hid hl
  clear hl
  go_wp2_with fail
  refine (H.out.bwait ⟨by decide, by decide, by decide⟩ 3 1 0 [2, 1, 3] [] (by decide +kernel) (by unfold baO; rw [if_pos (by decide), keys_eq _ [2, 1] (by decide +kernel)]; rfl) (by decide +kernel)).mono ?_
  rintro e w14 ⟨xo, xc, rfl, hl⟩
  have H := hid hl
  clear hl
  have NL := hid (fun (z : World) (hk : Kp w14 z []) => (H.out.ns (x := (.slice lo 2 lc, [3, 2])) (by simp)).keep hk)
  have NX := hid (fun (z : World) (hk : Kp w14 z []) => (H.out.ns (x := (.slice xo 3 xc, [2, 1, 3])) (by simp)).keep hk)
  go_wp2_with (go_at_call 10; refine (num_any _ _).mono ?_; rintro e wx ⟨rfl, hw⟩; obtain rfl := hw.symm)
  refine (ints_any _ _ _ _ _ [3, 2] [3, 2] (NL.out _ (Kp.alloc _ _ _)) (ns_l2 w14 3 2) (by decide)).mono ?_
  rintro e z1 ⟨rfl, hk⟩
  have K1 := hid ((Kp.alloc w14 (.cells #[.int .i64 3, .int .i64 2] 3) []).trans hk)
  clear hk
  rw [show decide (([3, 2] : List Int) = [3, 2]) = true from by decide]
  go_wp2_with (go_at_call 10; refine (num_any _ _).mono ?_; rintro e wx ⟨rfl, hw⟩; obtain rfl := hw.symm)
  refine (H.out.same K1.out).val.mono ?_
  rintro e wx ⟨rfl, hw⟩; obtain rfl := hw.symm
  go_wp2_with (go_at_call 10; refine (num_any _ _).mono ?_; rintro e wx ⟨rfl, hw⟩; obtain rfl := hw.symm)
  refine (ints_any _ _ _ _ _ [2, 1, 3] [2, 1, 3] (NX.out _ (K1.out.trans (Kp.alloc _ _ _))) (ns_l3 z1 2 1 3) (by decide)).mono ?_
  rintro e z2 ⟨rfl, hk⟩
  have K2 := hid ((K1.out.trans (Kp.alloc z1 (.cells #[.int .i64 2, .int .i64 1, .int .i64 3] 3) [])).trans hk)
  clear hk
  rw [show decide (([2, 1, 3] : List Int) = [2, 1, 3]) = true from by decide]
  go_wp2_with fail
  refine (H.out.same K2.out).blen.mono ?_
  rintro e wx ⟨rfl, hw⟩; obtain rfl := hw.symm
  go_wp2
  go_ret
  exact ⟨rfl, H.out.kp.trans K2.out⟩
end Go.Proofs.Ytpkaeanagdhmiaa
