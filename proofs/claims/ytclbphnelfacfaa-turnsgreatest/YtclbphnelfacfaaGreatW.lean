/- TurnsGreatest's walk. -/
import Derived.Test.YtclbphnelfacfaaGr
namespace Go.Proofs.Ytclbphnelfacfaa
open Go.RowKit Go.Shelf

/-- The lists that were. -/
def Wa (W : World) (wb : Nat) (L : Ls) (k : Nat) : Prop := ∃ F : Nat → Value, W.heap[wb]? = some (.cells (vcl F 32 0).toArray 41 (0, 0)) ∧ ∀ p, 1 ≤ p → p < k → Ns W 0 (F p) (L p)
section
variable {W W' : World} {wb k : Nat} {L : Ls}
theorem Wa.lt (h : Wa W wb L k) : wb < W.heap.size := by obtain ⟨F, h1, -⟩ := h; exact lt_of_block h1
theorem Wa.kept {rows : List Nat} (h : Wa W wb L k) (hk : Kp W W' rows) (hq : wb ∉ rows) (hr : ∀ r ∈ rows, ∃ c t, W.heap[r]? = some (.cells c t (0, 0)) ∧ t ≠ 3) : Wa W' wb L k := by
  obtain ⟨F, h1, h2⟩ := h
  refine ⟨F, (hk.block wb (lt_of_block h1) hq).trans h1, fun p hp hp2 => (h2 p hp hp2).kp hk fun g hg hm => ?_⟩
  obtain ⟨c, t, hc, ht⟩ := hr g hm
  exact ns_ne (h2 p hp hp2) hc ht hg rfl
theorem Wa.keep (h : Wa W wb L k) (hk : Kp W W' []) : Wa W' wb L k := h.kept hk (by simp) (by simp)
theorem Wa.at (h : Wa W wb L k) {p : Nat} (h1 : 1 ≤ p) (h2 : p < k) (h3 : p < 32) : ∃ V, W.cell? ⟨wb, p, none⟩ = some V ∧ Ns W 0 V (L p) := by
  obtain ⟨F, e1, e2⟩ := h
  exact ⟨F p, vcl_cell e1 p h3, e2 p h1 h2⟩
theorem Wa.free (h : Wa W wb L k) (i : Nat) : W.frozen? ⟨wb, i, none⟩ = false := by obtain ⟨F, h1, -⟩ := h; simp [World.frozen?, h1]
theorem Wa.any (h : Wa W wb L k) {p : Nat} (h3 : p < 32) : ∃ V, W.cell? ⟨wb, p, none⟩ = some V := by
  obtain ⟨F, e1, e2⟩ := h
  exact ⟨F p, vcl_cell e1 p h3⟩
theorem Wa.put {base : Nat} {V : Value} (h : Wa W wb L k) (h3 : k < 32) (hV : Ns W base V (L k)) : Wa (W.setCell ⟨wb, k, none⟩ V) wb L (k + 1) := by
  obtain ⟨F, e1, e2⟩ := h
  have hk2 := Kp.setCell W ⟨wb, k, none⟩ V
  refine ⟨updV F k V, vcl_heap e1 h3 (fun i _ => rfl), fun p hp hp2 => ?_⟩
  by_cases e : p = k
  · subst e
    rw [show updV F p V p = V by simp [updV]]
    exact (hV.kp hk2 fun g hg => by simpa using ns_ne hV e1 (by decide) hg).low (Nat.zero_le _)
  · rw [show updV F k V p = F p by simp [updV, e]]
    exact (e2 p hp (by omega)).kp hk2 fun g hg => by simpa using ns_ne (e2 p hp (by omega)) e1 (by decide) hg
end
theorem Kn.of_to {w W W' : World} {xb rb q m s k : Nat} {S S' : Sh} {L L' : Ls} (h : Kn w W xb rb q S L m) (hs : s ≤ m) (ht : To W W' xb rb q S' L' s k) : Kn w W' xb rb q S' L' (m + k) := by
  obtain ⟨⟨s', h1, h2⟩, h3⟩ := ht
  refine ⟨⟨s', by omega, h2⟩, h.kp.past h3 (fun x hx hl => ?_), h.g1, h.g2⟩
  have := h.g1
  have := h.g2
  simp at hx
  omega
theorem Tn.kinds {w : World} {xb rb q s : Nat} {S : Sh} {L : Ls} (h : Tn w xb rb q S L s) : ∀ r ∈ [xb, rb], ∃ c t, w.heap[r]? = some (.cells c t (0, 0)) ∧ t ≠ 3 := by
  obtain ⟨c, u, hR, -⟩ := h.rd
  intro r hr
  simp at hr
  rcases hr with rfl | rfl
  · exact ⟨_, _, h.tc, by decide⟩
  · exact ⟨_, _, hR, by decide⟩
/-- The step in memory, and the lists that were. -/
structure Fx (W : World) (sb wb : Nat) (L : Ls) (k t p : Int) (r : Bool) : Prop where
  row : W.heap[sb]? = some (.cells #[.int .i64 k, .int .i64 t, .int .i64 p, .bool r] 32 (0, 0))
  wa : Wa W wb L 32
theorem Fx.cells {W : World} {sb wb : Nat} {L : Ls} {k t p : Int} {r : Bool} (h : Fx W sb wb L k t p r) : W.cell? ⟨sb, 0, none⟩ = some (.int .i64 k) ∧ W.cell? ⟨sb, 1, none⟩ = some (.int .i64 t) ∧ W.cell? ⟨sb, 2, none⟩ = some (.int .i64 p) ∧ W.cell? ⟨sb, 3, none⟩ = some (.bool r) ∧ W.frozen? ⟨sb, 1, none⟩ = false :=
  ⟨by rw [cell_of_row _ _ _ _ _ _ h.row]; rfl, by rw [cell_of_row _ _ _ _ _ _ h.row]; rfl, by rw [cell_of_row _ _ _ _ _ _ h.row]; rfl, by rw [cell_of_row _ _ _ _ _ _ h.row]; rfl, by simp [World.frozen?, h.row]⟩
theorem Fx.keep {W W' : World} {sb wb : Nat} {L : Ls} {k t p : Int} {r : Bool} (h : Fx W sb wb L k t p r) (hk : Kp W W' []) : Fx W' sb wb L k t p r := ⟨(hk.block sb (lt_of_block h.row) (by simp)).trans h.row, h.wa.keep hk⟩
theorem Fx.over {W W' : World} {sb wb xb rb q s : Nat} {S : Sh} {L M : Ls} {k t p : Int} {r : Bool} (h : Fx W sb wb L k t p r) (hT : Tn W xb rb q S M s) (hk : Kp W W' [xb, rb]) : Fx W' sb wb L k t p r := by
  obtain ⟨c, u, hR, -⟩ := hT.rd
  obtain ⟨F, h1, h2⟩ := h.wa
  refine ⟨(hk.block sb (lt_of_block h.row) ?_).trans h.row, Wa.kept ⟨F, h1, h2⟩ hk ?_ hT.kinds⟩
  · simp
    exact ⟨block_ne h.row hT.tc (by decide), block_ne h.row hR (by decide)⟩
  · simp
    exact ⟨block_ne h1 hT.tc (by decide), block_ne h1 hR (by decide)⟩
theorem Fx.set {W : World} {sb wb : Nat} {L : Ls} {k t p : Int} {r : Bool} (h : Fx W sb wb L k t p r) (n : Int) : Fx (W.setCell ⟨sb, 1, none⟩ (.int .i64 n)) sb wb L k n p r := by
  obtain ⟨F, h1, h2⟩ := h.wa
  refine ⟨?_, Wa.kept ⟨F, h1, h2⟩ (Kp.setCell W ⟨sb, 1, none⟩ _) (by simp; exact block_ne h1 h.row (by decide)) ?_⟩
  · rw [heap_setCell_same W sb 1 _ 32 _ h.row]
    rfl
  · intro r' hr
    simp at hr
    subst hr
    exact ⟨_, _, h.row, by decide⟩
/-- Who is first so far. -/
def Fs (L : Ls) (f : Int) (p : Nat) : Prop := (f = -1 ∧ ∀ p', p < p' → p' ≤ 31 → L p' = []) ∨ (∃ t : Nat, f = t ∧ fstV L = t ∧ fstB L = true)
theorem Fs.none {L : Ls} {f : Int} {p : Nat} (h : Fs L f p) (hp : L p = []) (h1 : 1 ≤ p) : Fs L f (p - 1) := by
  rcases h with ⟨h2, h3⟩ | h2
  · refine .inl ⟨h2, fun p' q1 q2 => ?_⟩
    by_cases e : p' = p
    · rw [e, hp]
    · exact h3 p' (by omega) q2
  · exact .inr h2
theorem Fs.some {L : Ls} {p t : Nat} {l : List Nat} (h : Fs L (-1) p) (hp : L p = t :: l) (h1 : 1 ≤ p) (h2 : p ≤ 31) : Fs L t (p - 1) := by
  rcases h with ⟨-, h3⟩ | ⟨t', h3, -⟩
  · obtain ⟨e1, e2⟩ := fst_of h1 h2 hp h3
    exact .inr ⟨t, rfl, e1, e2⟩
  · omega
theorem Fs.more {L : Ls} {f : Int} {p : Nat} (h : Fs L f p) (hf : ¬ f < 0) : Fs L f (p - 1) := by
  rcases h with ⟨h2, -⟩ | h2
  · omega
  · exact .inr h2
theorem Fs.done {L : Ls} {f : Int} (h : Fs L f 0) : (f = -1 ∧ fstB L = false) ∨ (∃ t : Nat, f = t ∧ fstV L = t ∧ fstB L = true) := by
  rcases h with ⟨h2, h3⟩ | h2
  · exact .inl ⟨h2, (fst_no fun p p1 p2 => h3 p p1 p2).2⟩
  · exact .inr h2
set_option maxRecDepth 100000 in
set_option maxHeartbeats 4000000 in
theorem great_no (w : World) (q : Int) (V : Value) (N : Nat) (S : Nat → Sp) (hV : Sc w V N S) (h : ¬ ((1 ≤ q ∧ q ≤ 100) ∧ N ≤ 200)) : Calls Try.prog 5 #[.int .i64 q, V] w fun e w' => e = .returned (.bool true) ∧ Kp w w' [] := by
  obtain ⟨so, sc, rfl⟩ := hV.shape
  clear hV
  by_cases hq : 1 ≤ q ∧ q ≤ 100
  · obtain ⟨q', rfl⟩ : ∃ n : Nat, q = n := ⟨q.toNat, by omega⟩
    have hN : (200 : Int) < N := by omega
    have a1 : ¬ (q' : Int) < 1 := by omega
    have a2 : ¬ (100 : Int) < q' := by omega
    have cn := kn_new w w (Kp.refl _ _) q' (by omega) (by omega)
    clear h hq
    go_enter Try.func5, Try.ntmps5
    go_wp2_with fail
    refine cn.mono ?_
    rintro e w1 ⟨xb, rb, rfl, hl⟩
    have K1 := hid hl.kp
    clear hl cn
    go_wp2_with fail
    refine (known_any _).mono ?_
    rintro e w2 ⟨rfl, hk⟩
    have K2 := hid (K1.out.trans hk)
    clear hk
    go_wp2
    go_ret
    exact ⟨rfl, K2.out⟩
  · have cn := tnew_no w q hq
    have hc : q < 1 ∨ (¬ q < 1 ∧ 100 < q) := by omega
    clear h hq
    rcases hc with a1 | ⟨a1, a2⟩
    all_goals
      go_enter Try.func5, Try.ntmps5
      go_wp2_with fail
      refine cn.mono ?_
      rintro e w1 ⟨rfl, rfl⟩
      go_wp2_with fail
      refine (known_any _).mono ?_
      rintro e w2 ⟨rfl, hk⟩
      have K2 := hid hk
      clear hk
      go_wp2
      go_ret
      exact ⟨rfl, K2.out⟩
set_option maxRecDepth 100000 in
set_option maxHeartbeats 8000000 in
theorem great_ok (w : World) (q : Nat) (V : Value) (N : Nat) (S : Nat → Sp) (hV : Sc w V N S) (q1 : 1 ≤ q) (q2 : q ≤ 100) (n1 : N ≤ 200) : Calls Try.prog 5 #[.int .i64 q, V] w fun e w' => e = .returned (.bool true) ∧ Kp w w' [] := by
  obtain ⟨so, sc, rfl⟩ := hV.shape
  have HV := hid hV
  have a1 : ¬ (q : Int) < 1 := by omega
  have a2 : ¬ (100 : Int) < q := by omega
  have a3 : ¬ (200 : Int) < N := by omega
  clear hV
  go_enter Try.func5, Try.ntmps5
  go_wp2_with fail
  refine (kn_new w w (Kp.refl _ _) q q1 q2).mono ?_
  rintro e w1 ⟨xb, rb, rfl, hl⟩
  have H1 := hid hl
  clear hl
  go_wp2_with fail
  go_loopw [7] (fun v wr => ∃ i : Nat, i ≤ N ∧ v = .int .i64 i ∧ Hid (∃ T L, Kn w wr xb rb q T L (i * 30))) (fun v _ => N - (intOf v).toNat)
  case atStart => exact ⟨0, by omega, rfl, _, _, H1.out⟩
  case round =>
    obtain ⟨i, hi, rfl, hT⟩ := hrel
    clear H1
    obtain ⟨T, L, hP⟩ := hT.out
    have HP := hid hP
    clear hT hP
    by_cases hlt : i < N
    · have h1 : (i : Int) < N := by omega
      have HOK := hid HP.out.ok
      have A1 : Wa (wr.alloc (.cells #[.slice none 0 0, .slice none 0 0, .slice none 0 0, .slice none 0 0, .slice none 0 0, .slice none 0 0, .slice none 0 0, .slice none 0 0, .slice none 0 0, .slice none 0 0, .slice none 0 0, .slice none 0 0, .slice none 0 0, .slice none 0 0, .slice none 0 0, .slice none 0 0, .slice none 0 0, .slice none 0 0, .slice none 0 0, .slice none 0 0, .slice none 0 0, .slice none 0 0, .slice none 0 0, .slice none 0 0, .slice none 0 0, .slice none 0 0, .slice none 0 0, .slice none 0 0, .slice none 0 0, .slice none 0 0, .slice none 0 0, .slice none 0 0] 41)) wr.heap.size L 1 := ⟨fun _ => .slice none 0 0, (heap_alloc_new wr _).trans (by kernel_rfl), fun p h1 h2 => by omega⟩
      have K1 := Kp.alloc wr (.cells #[.slice none 0 0, .slice none 0 0, .slice none 0 0, .slice none 0 0, .slice none 0 0, .slice none 0 0, .slice none 0 0, .slice none 0 0, .slice none 0 0, .slice none 0 0, .slice none 0 0, .slice none 0 0, .slice none 0 0, .slice none 0 0, .slice none 0 0, .slice none 0 0, .slice none 0 0, .slice none 0 0, .slice none 0 0, .slice none 0 0, .slice none 0 0, .slice none 0 0, .slice none 0 0, .slice none 0 0, .slice none 0 0, .slice none 0 0, .slice none 0 0, .slice none 0 0, .slice none 0 0, .slice none 0 0, .slice none 0 0, .slice none 0 0] 41) []
      go_wp2_with fail
      generalize wr.alloc (.cells #[.slice none 0 0, .slice none 0 0, .slice none 0 0, .slice none 0 0, .slice none 0 0, .slice none 0 0, .slice none 0 0, .slice none 0 0, .slice none 0 0, .slice none 0 0, .slice none 0 0, .slice none 0 0, .slice none 0 0, .slice none 0 0, .slice none 0 0, .slice none 0 0, .slice none 0 0, .slice none 0 0, .slice none 0 0, .slice none 0 0, .slice none 0 0, .slice none 0 0, .slice none 0 0, .slice none 0 0, .slice none 0 0, .slice none 0 0, .slice none 0 0, .slice none 0 0, .slice none 0 0, .slice none 0 0, .slice none 0 0, .slice none 0 0] 41) = W1 at A1 K1 ⊢
      obtain ⟨wb, hwb⟩ : ∃ wb, wr.heap.size = wb := ⟨_, rfl⟩
      rw [hwb] at A1 ⊢
      have HWB := hid hwb
      have A1 := hid A1
      have K1 := hid K1
      clear hwb
      go_loopw [9] (fun v wr2 => ∃ p : Nat, 1 ≤ p ∧ p ≤ 32 ∧ v = .int .i64 p ∧ Hid (Kp wr wr2 []) ∧ Hid (Wa wr2 wb L p)) (fun v _ => 32 - (intOf v).toNat)
      case atStart => exact ⟨1, by omega, by omega, rfl, K1, A1⟩
      case round =>
        obtain ⟨p, p1, p2, rfl, hK, hA⟩ := hrel
        clear A1 K1
        by_cases hp : p ≤ 31
        · have hpI : (p : Int) ≤ 31 := by omega
          have a5 : (0 : Int) ≤ (p : Int) := by omega
          have a6 : (p : Int) < 32 := by omega
          have HK := hid (HP.out.same hK.out)
          go_wp2_with fail
          refine (HK.out.of p).mono ?_
          rintro e w3 ⟨⟨V3, rfl, hV3⟩, hk3⟩
          rw [seqI_at L p1 hp] at hV3
          obtain ⟨ao3, cp3, rfl⟩ := hV3.slice
          have A3 := hA.out.keep hk3
          obtain ⟨v0, c0⟩ := A3.any (p := p) (by omega)
          have f0 := A3.free p
          have A4 := hid (A3.put (by omega) hV3)
          have K4 := hid ((hK.out.trans hk3).past (Kp.setCell w3 ⟨wb, p, none⟩ (.slice ao3 (L p).length cp3)) (fun x hx hl => by
            have := HWB.out
            simp at hx
            omega))
          clear hV3 hk3 A3
          go_wp2
          go_roundw
          case rel => exact ⟨p + 1, by omega, by omega, by simp, K4, A4⟩
          case measure => simp [intOf]; omega
        · have hpI : ¬ (p : Int) ≤ 31 := by omega
          have hp32 : p = 32 := by omega
          subst hp32
          have HK := hid (HP.out.same hK.out)
          obtain ⟨tb, of0, rfl, y0, y1, y2, y3⟩ := (HV.out.keep HK.out.kp).at hlt
          obtain ⟨ks, hks⟩ : ∃ k, (S i).k = k := ⟨_, rfl⟩
          obtain ⟨tt, htt⟩ : ∃ k, (S i).t = k := ⟨_, rfl⟩
          obtain ⟨pp, hpp⟩ : ∃ k, (S i).p = k := ⟨_, rfl⟩
          obtain ⟨rr, hrr⟩ : ∃ k, (S i).r = k := ⟨_, rfl⟩
          rw [hks] at y0
          rw [htt] at y1
          rw [hpp] at y2
          rw [hrr] at y3
          have F3 := hid (show Fx (wr.alloc (.cells #[.int .i64 ks, .int .i64 tt, .int .i64 pp, .bool rr] 32)) wr.heap.size wb L ks tt pp rr from ⟨heap_alloc_new wr _, hA.out.keep (Kp.alloc wr _ [])⟩)
          have K3 := hid (HK.out.same (Kp.alloc wr (.cells #[.int .i64 ks, .int .i64 tt, .int .i64 pp, .bool rr] 32) []))
          clear hks htt hpp hrr
          go_wp2_with fail
          obtain ⟨W3, hW3⟩ : ∃ W3, wr.alloc (.cells #[.int .i64 ks, .int .i64 tt, .int .i64 pp, .bool rr] 32) = W3 := ⟨_, rfl⟩
          rw [hW3] at F3 K3 ⊢
          obtain ⟨sb, hsb⟩ : ∃ sb, wr.heap.size = sb := ⟨_, rfl⟩
          rw [hsb] at F3 ⊢
          have HSB := hid (show w.heap.size ≤ sb from by rw [← hsb]; exact HK.out.kp.size)
          clear hW3 hsb y0 y1 y2 y3 hA
          obtain ⟨s3, l3, t3⟩ := K3.out.tn
          have T3 := hid t3
          clear t3
          refine (T3.out.runs (by omega)).mono ?_
          rintro e w4 ⟨rfl, hT4⟩
          have K4 := hid (K3.out.of_to l3 hT4)
          have F4 := hid (F3.out.over T3.out hT4.2)
          clear hT4 T3 K3 F3
          obtain ⟨fv, hfv⟩ : ∃ fv, fstV L = fv := ⟨_, rfl⟩
          obtain ⟨fb, hfb⟩ : ∃ fb, fstB L = fb := ⟨_, rfl⟩
          rw [hfv, hfb]
          have HFV := hid hfv
          clear hfv hfb
          obtain ⟨d0, d1, d2, d3, -⟩ := F4.out.cells
          obtain ⟨s4, l4, t4⟩ := K4.out.tn
          have T4 := hid t4
          clear t4
          go_wp2_with fail
          refine (one_any ks tt pp rr T4.out (by omega)).mono ?_
          rintro e w5 ⟨⟨v5, rfl⟩, hT5⟩
          have K5 := hid (K4.out.of_to l4 hT5)
          have F5 := hid (F4.out.over T4.out hT5.2)
          have HOFF := hid (off_step_all HOK.out T ks tt pp)
          rw [HFV.out] at HOFF
          clear hT5 T4 K4 F4 d0 d1 d2 d3
          obtain ⟨M, hM⟩ : ∃ M, stL L T ks tt pp = M := ⟨_, rfl⟩
          obtain ⟨Y, hY⟩ : ∃ Y, stS q L T ks tt pp rr = Y := ⟨_, rfl⟩
          rw [hM] at K5 HOFF
          rw [hY] at K5
          clear hM hY
          obtain ⟨d0, d1, d2, d3, fz⟩ := F5.out.cells
          by_cases hk4 : ks = 4
          case' pos =>
            have hkb : (ks == 4) = true := by simp [hk4]
            have F6 := hid (F5.out.set (fv : Int))
            have K6 := hid (show Kn w (w5.setCell ⟨sb, 1, none⟩ (.int .i64 (fv : Int))) xb rb q Y M (i * 30 + 21) from by
              obtain ⟨s5, l5, t5⟩ := K5.out.tn
              obtain ⟨c, u, hR, -⟩ := t5.rd
              have kk := Kp.setCell w5 ⟨sb, 1, none⟩ (.int .i64 (fv : Int))
              have hn1 : xb ∉ [sb] := by simp; exact block_ne t5.tc F5.out.row (by decide)
              have hn2 : rb ∉ [sb] := by simp; exact block_ne hR F5.out.row (by decide)
              exact ⟨⟨s5, by omega, t5.keep kk hn1 hn2⟩, K5.out.kp.past kk (fun x hx hl => by have := HSB.out; simp at hx; omega), K5.out.g1, K5.out.g2⟩)
            have HO := hid (show ∀ x, off (M x) (fv : Int) = off (L x) (fv : Int) from fun x => by have := HOFF.out x; simpa only [if_pos hk4] using this)
            clear hk4 K5 F5 HOFF
            go_wp2_with fail
            generalize w5.setCell ⟨sb, 1, none⟩ (.int .i64 (fv : Int)) = W6 at F6 K6 ⊢
            obtain ⟨nm, hnm⟩ : ∃ nm : Int, (fv : Int) = nm := ⟨_, rfl⟩
            rw [hnm] at F6 HO
          case' neg =>
            have hkb : (ks == 4) = false := by simp [hk4]
            have F6 := F5
            have K6 := hid (K5.out.more (show i * 30 + 1 + 20 ≤ i * 30 + 21 by omega))
            have HO := hid (show ∀ x, off (M x) tt = off (L x) tt from fun x => by have := HOFF.out x; simpa only [if_neg hk4] using this)
            clear hk4 K5 F5 HOFF
            go_wp2_with fail
            obtain ⟨nm, hnm⟩ : ∃ nm : Int, tt = nm := ⟨_, rfl⟩
            rw [hnm] at F6 HO
            obtain ⟨W6, hW6⟩ : ∃ W6, w5 = W6 := ⟨_, rfl⟩
            rw [hW6] at F6 K6 ⊢
          all_goals
            clear hnm
            obtain ⟨s6, l6, t6⟩ := K6.out.tn
            have T6 := hid t6
            clear t6
            refine (T6.out.runs (by omega)).mono ?_
            rintro e w7 ⟨rfl, hT7⟩
            have K7 := hid (K6.out.of_to l6 hT7)
            have F7 := hid (F6.out.over T6.out hT7.2)
            have OKM := hid K7.out.ok
            clear hT7 T6 K6 F6
            obtain ⟨gv, hgv⟩ : ∃ fv, fstV M = fv := ⟨_, rfl⟩
            obtain ⟨gb, hgb⟩ : ∃ fb, fstB M = fb := ⟨_, rfl⟩
            rw [hgv, hgb]
            have HG := hid (And.intro hgv hgb)
            clear hgv hgb
            go_wp2_with fail
            go_loopw [15, 16] (fun vf v wr3 => ∃ (p : Nat) (f : Int), p ≤ 31 ∧ v = .int .i64 p ∧ vf = .int .i64 f ∧ Hid (Fs M f p) ∧ Hid (Kp w7 wr3 [])) (fun _ v _ => (intOf v).toNat)
            case atStart => exact ⟨31, -1, by omega, rfl, rfl, .inl ⟨rfl, fun p' h1 h2 => by omega⟩, Kp.refl _ _⟩
            case round =>
              obtain ⟨p, f, hp, rfl, rfl, hF, hK7⟩ := hrel
              have K8 := hid (K7.out.same hK7.out)
              have F8 := hid (F7.out.keep hK7.out)
              by_cases hp0 : 0 < p
              · have hpI : (0 : Int) < p := by omega
                have a5 : (0 : Int) ≤ (p : Int) := by omega
                have a6 : (p : Int) < 32 := by omega
                go_wp2_with fail
                refine (K8.out.of p).mono ?_
                rintro e w9 ⟨⟨V9, rfl, hV9⟩, hk9⟩
                rw [seqI_at M (by omega) hp] at hV9
                have lm := OKM.out.len p
                have ll := HOK.out.len p
                obtain ⟨ao, cp, rfl⟩ := hV9.slice
                have N9 := hid hV9
                have F9 := hid (F8.out.keep hk9)
                have KK := hid (hK7.out.trans hk9)
                clear hV9 hk9 F8 K8
                obtain ⟨V2, cV2, hN2⟩ := F9.out.wa.at (p := p) (by omega) (by omega) (by omega)
                obtain ⟨ao2, cp2, rfl⟩ := hN2.slice
                have N2 := hid hN2
                have SCK := hid (fun (W : World) (hk : Kp w9 W []) => show W.cell? ⟨sb, 1, none⟩ = some (.int .i64 nm) ∧ W.cell? ⟨wb, p, none⟩ = some (.slice ao2 (L p).length cp2) from ⟨hk.cell F9.out.cells.2.1 (by simp), hk.cell cV2 (by simp)⟩)
                have hpw : IntKind.i64.wrap ((p : Int) - 1) = (p : Int) - 1 := IntWalk.i64_in _ ⟨by omega, by omega⟩
                have HOP := hid (decide_eq_true (HO.out p))
                clear hN2 cV2
                cases hMp : M p with
                | nil =>
                  have FN := hid (hF.out.none hMp (by omega))
                  have NM := N9
                  rw [hMp] at NM lm
                  have LL := hid lm
                  have HMP := hid hMp
                  clear hMp hF
                  simp only [List.length_nil]
                  go_wp2_with fail
                  go_region_held_law (fun W => W.cell? ⟨sb, 1, none⟩ = some (.int .i64 nm) ∧ W.cell? ⟨wb, p, none⟩ = some (.slice ao2 (L p).length cp2))
                    (first | exact SCK.out _ (Kp.drew _ _) | exact SCK.out _ ka.out | exact SCK.out _ kb.out | exact SCK.out _ kc.out)
                    (first
                      | (go_at_call 20; have _h := kb; refine (ints_any _ _ _ _ _ (off ([]) nm) (off (L p) nm) NA2.out NB.out (Nat.le_trans (off_len _ _) (Nat.le_trans LL.out (by decide))) (Nat.le_trans (off_len _ _) (by omega))).mono ?_; rintro e z3 ⟨rfl, hk3⟩; have kc := hid (kb.out.trans hk3); clear hk3)
                      | (go_at_call 21; have _h := ka; refine (without_any _ 0 _ (L p) nm (N2.out.keep ka.out) (by omega)).mono ?_; rintro e z2 ⟨⟨Vb, rfl, hWb⟩, hkb⟩; obtain ⟨aob, cpb, rfl⟩ := hWb.slice; have kb := hid (ka.out.trans hkb); have NA2 := hid (NA.out.keep hkb); have NB := hid hWb; clear hWb hkb)
                      | (go_at_call 21; refine (without_any _ _ _ ([]) nm (NM.out.keep (Kp.drew _ _)) (Nat.le_trans LL.out (by decide))).mono ?_; rintro e z1 ⟨⟨Va, rfl, hWa⟩, hka⟩; obtain ⟨aoa, cpa, rfl⟩ := hWa.slice; have ka := hid ((Kp.drew w9 []).trans hka); have NA := hid hWa; clear hWa hka))
                  rw [show decide (off ([]) nm = off (L p) nm) = true from by rw [← HMP.out]; exact HOP.out]
                  have KZ := hid (KK.out.trans kc.out)
                  go_wp2
                  go_roundw
                  case rel => exact ⟨p - 1, _, by omega, by simp; omega, rfl, FN, KZ⟩
                  case measure => simp [intOf]; omega
                | cons h9 l9 =>
                  obtain ⟨g9, rfl, -, -, cx⟩ := N9.out.at (k := 0) (x := h9) (by rw [hMp]; rfl)
                  have NM := N9
                  rw [hMp] at NM lm
                  have LL := hid lm
                  have HMP := hid hMp
                  obtain ⟨n9, hn9⟩ : ∃ n, (h9 :: l9).length = n := ⟨_, rfl⟩
                  rw [hn9] at NM lm ⊢
                  have hnn : 0 < n9 := by rw [← hn9]; simp
                  have hnz : ¬ n9 = 0 := by omega
                  have hnI : (0 : Int) < (n9 : Int) := by omega
                  clear hn9
                  by_cases hf : f < 0
                  · have FN := hid (show Fs M (h9 : Int) (p - 1) from by
                      rcases hF.out with ⟨e1, -⟩ | ⟨t', e1, -⟩
                      · have := hF.out
                        rw [e1] at this
                        exact this.some hMp (by omega) hp
                      · omega)
                    clear hMp hF
                    go_wp2_with fail
                    go_region_held_law (fun W => W.cell? ⟨sb, 1, none⟩ = some (.int .i64 nm) ∧ W.cell? ⟨wb, p, none⟩ = some (.slice ao2 (L p).length cp2))
                      (first | exact SCK.out _ (Kp.drew _ _) | exact SCK.out _ ka.out | exact SCK.out _ kb.out | exact SCK.out _ kc.out)
                      (first
                        | (go_at_call 20; have _h := kb; refine (ints_any _ _ _ _ _ (off (h9 :: l9) nm) (off (L p) nm) NA2.out NB.out (Nat.le_trans (off_len _ _) (Nat.le_trans LL.out (by decide))) (Nat.le_trans (off_len _ _) (by omega))).mono ?_; rintro e z3 ⟨rfl, hk3⟩; have kc := hid (kb.out.trans hk3); clear hk3)
                        | (go_at_call 21; have _h := ka; refine (without_any _ 0 _ (L p) nm (N2.out.keep ka.out) (by omega)).mono ?_; rintro e z2 ⟨⟨Vb, rfl, hWb⟩, hkb⟩; obtain ⟨aob, cpb, rfl⟩ := hWb.slice; have kb := hid (ka.out.trans hkb); have NA2 := hid (NA.out.keep hkb); have NB := hid hWb; clear hWb hkb)
                        | (go_at_call 21; refine (without_any _ _ _ (h9 :: l9) nm (NM.out.keep (Kp.drew _ _)) (Nat.le_trans LL.out (by decide))).mono ?_; rintro e z1 ⟨⟨Va, rfl, hWa⟩, hka⟩; obtain ⟨aoa, cpa, rfl⟩ := hWa.slice; have ka := hid ((Kp.drew w9 []).trans hka); have NA := hid hWa; clear hWa hka))
                    rw [show decide (off (h9 :: l9) nm = off (L p) nm) = true from by rw [← HMP.out]; exact HOP.out]
                    have KZ := hid (KK.out.trans kc.out)
                    go_wp2
                    go_roundw
                    case rel => exact ⟨p - 1, _, by omega, by simp; omega, rfl, FN, KZ⟩
                    case measure => simp [intOf]; omega
                  · have FN := hid (hF.out.more hf)
                    clear hMp hF
                    go_wp2_with fail
                    go_region_held_law (fun W => W.cell? ⟨sb, 1, none⟩ = some (.int .i64 nm) ∧ W.cell? ⟨wb, p, none⟩ = some (.slice ao2 (L p).length cp2))
                      (first | exact SCK.out _ (Kp.drew _ _) | exact SCK.out _ ka.out | exact SCK.out _ kb.out | exact SCK.out _ kc.out)
                      (first
                        | (go_at_call 20; have _h := kb; refine (ints_any _ _ _ _ _ (off (h9 :: l9) nm) (off (L p) nm) NA2.out NB.out (Nat.le_trans (off_len _ _) (Nat.le_trans LL.out (by decide))) (Nat.le_trans (off_len _ _) (by omega))).mono ?_; rintro e z3 ⟨rfl, hk3⟩; have kc := hid (kb.out.trans hk3); clear hk3)
                        | (go_at_call 21; have _h := ka; refine (without_any _ 0 _ (L p) nm (N2.out.keep ka.out) (by omega)).mono ?_; rintro e z2 ⟨⟨Vb, rfl, hWb⟩, hkb⟩; obtain ⟨aob, cpb, rfl⟩ := hWb.slice; have kb := hid (ka.out.trans hkb); have NA2 := hid (NA.out.keep hkb); have NB := hid hWb; clear hWb hkb)
                        | (go_at_call 21; refine (without_any _ _ _ (h9 :: l9) nm (NM.out.keep (Kp.drew _ _)) (Nat.le_trans LL.out (by decide))).mono ?_; rintro e z1 ⟨⟨Va, rfl, hWa⟩, hka⟩; obtain ⟨aoa, cpa, rfl⟩ := hWa.slice; have ka := hid ((Kp.drew w9 []).trans hka); have NA := hid hWa; clear hWa hka))
                    rw [show decide (off (h9 :: l9) nm = off (L p) nm) = true from by rw [← HMP.out]; exact HOP.out]
                    have KZ := hid (KK.out.trans kc.out)
                    go_wp2
                    go_roundw
                    case rel => exact ⟨p - 1, _, by omega, by simp; omega, rfl, FN, KZ⟩
                    case measure => simp [intOf]; omega
              · have hpI : ¬ (0 : Int) < p := by omega
                have hp00 : p = 0 := by omega
                subst hp00
                have HD := hid hF.out.done
                have K10 := hid (K8.out.more (show i * 30 + 21 + 1 ≤ (i + 1) * 30 by omega))
                clear hF K8 F8
                rcases HD.out with ⟨rfl, hb⟩ | ⟨t9, rfl, hv, hb⟩
                · rw [HG.out.2] at hb
                  subst hb
                  go_wp2
                  go_roundw
                  case rel => exact ⟨i + 1, by omega, by simp, _, _, K10.out⟩
                  case measure => simp [intOf]; omega
                · rw [HG.out.2] at hb
                  rw [HG.out.1] at hv
                  subst hb hv
                  have hge : (0 : Int) ≤ (gv : Int) := by omega
                  go_wp2
                  go_roundw
                  case rel => exact ⟨i + 1, by omega, by simp, _, _, K10.out⟩
                  case measure => simp [intOf]; omega
    · have h1 : ¬ (i : Int) < N := by omega
      have K6 := hid HP.out.kp
      clear HP
      go_wp2_with fail
      refine (known_any _).mono ?_
      rintro e W7 ⟨rfl, k7⟩
      have K7 := hid (K6.out.trans k7)
      clear k7 K6
      go_wp2
      go_ret
      exact ⟨rfl, K7.out⟩
theorem great_walk (w : World) (q : Int) (V : Value) (N : Nat) (S : Nat → Sp) (hV : Sc w V N S) : Calls Try.prog 5 #[.int .i64 q, V] w fun e w' => e = .returned (.bool true) ∧ Kp w w' [] := by
  by_cases h : (1 ≤ q ∧ q ≤ 100) ∧ N ≤ 200
  · obtain ⟨q', rfl⟩ : ∃ n : Nat, q = n := ⟨q.toNat, by omega⟩
    exact great_ok w q' V N S hV (by omega) (by omega) h.2
  · exact great_no w q V N S hV h
end Go.Proofs.Ytclbphnelfacfaa
