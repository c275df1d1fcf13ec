/- Set. -/
import Derived.Test.YtoaceeddcnijoaaCalls
import Derived.Deep.RegionLaw
namespace Go.Proofs.Ytoaceeddcnijoaa
open Go.RowKit Go.Shelf Go.Lib Go.Sort

def mayT (at1 : Int) : Bool := decide (0 ≤ at1) && decide (at1 ≤ 1099511627776)
set_option maxRecDepth 100000 in
theorem time_any (w : World) (at1 : Int) : Calls Try.prog 27 #[.int .i64 at1] w fun e w' => e = .returned (.bool (mayT at1)) ∧ w' = w := by
  by_cases h0 : 0 ≤ at1 <;> by_cases h1 : at1 ≤ 1099511627776
  all_goals (
    go_enter Try.func27, Try.ntmps27
    go_wp2
    go_ret
    exact ⟨by simp [mayT, h0, h1], rfl⟩)
/-- append: the row stays where it was, or lies in new memory. -/
theorem push_where {w : World} (ty : TypeId) (V : Value) (l : List Dl) (hV : Dr w 0 V l) (ad : Addr) (m : List Dl) (cap : Nat) (hX : Dr w 0 (.slice (some ad) m.length cap) m) (hm0 : m ≠ []) (hl : l.length ≤ 1000000) (hm : m.length ≤ 1000000) :
    ∃ v' w', (Builtin.append_ #[47, 47] ty #[V, .slice (some ad) m.length cap]).run Try.prog w = .ok v' w' ∧ Dr w' 0 v' (l ++ m) ∧ w.grownBy w' V.ownBlock ∧ (v'.ownBlock = V.ownBlock ∨ v'.ownBlock = some w.heap.size) := by
  obtain ⟨i0, hi, hz0, hz1, hz2⟩ := info_parts Try.infoD
  obtain ⟨v', w', hr, h2, h3, -⟩ := run_append_own (P := Try.prog) w 0 47 ty 69 i0 (.agg #[.int .i64 0, .int .i64 0]) 2 16 Try.underlying47 hi hz0 hz1 hz2 rfl (by decide) V l.length (dcells l) hV ad m.length cap (dcells m) (dcells_length m) hX.cells (dcells_one m) (by unfold maxLen; omega) (by omega) (Nat.zero_le _)
  refine ⟨v', w', hr, by unfold Dr; rw [List.length_append, dcells_append]; exact h2, h3, ?_⟩
  have hmp : 0 < m.length := List.length_pos_iff.2 hm0
  have hlen : (dcells m).length = m.length * i0.size := by rw [hz1]; exact dcells_length m
  rcases hV.2 with ⟨rfl, h0⟩ | ⟨g, cp, cur, rfl, hbg, hg, hnc, hcm, hcs, htake⟩
  · have hr2 := run_append_nil (P := Try.prog) w 47 ty 69 i0 (.agg #[.int .i64 0, .int .i64 0]) Try.underlying47 hi hz0 ad m.length cap (dcells m) hlen hX.cells hmp (by omega) (by rw [hz2]; omega)
    have e := hr.symm.trans hr2
    injection e with e1 _
    rw [e1]
    exact .inr rfl
  · by_cases hroom : l.length + m.length ≤ cp
    · have hr2 := run_append_room (P := Try.prog) w 47 ty 69 i0 Try.underlying47 hi g l.length cp cur hg ad m.length cap (dcells m) hlen hX.cells (dcells_one m) hroom (by rw [hz1, hcs, dcells_length]; omega)
      have e := hr.symm.trans hr2
      injection e with e1 _
      rw [e1]
      exact .inl rfl
    · have hr2 := run_append_grow (P := Try.prog) w 47 ty 69 i0 (.agg #[.int .i64 0, .int .i64 0]) Try.underlying47 hi hz0 ⟨g, 0, none⟩ l.length cp (dcells l) (by rw [hz1]; exact dcells_length l) hV.cells ad m.length cap (dcells m) hlen hX.cells (by omega) (by omega) (by rw [hz2]; exact growslice_fits (by omega) (by omega))
      have e := hr.symm.trans hr2
      injection e with e1 _
      rw [e1]
      exact .inr rfl
theorem step_pushD {w : World} {ops : Array Oper} {o : Oper} {a : Act} {K : Act → World → Prop} {Q : Exit → Act → World → Prop} {E : Prop} (hgd : o.guard = none) (s x : Operand) (ho : o.op = .call { callee := .builtin .append, args := #[s, x], argTypes := #[47, 47] }) (D : Nat) (hD : o.dst = some D)
    (V : Value) (l : List Dl) (ad : Addr) (m : List Dl) (cap : Nat) (hs : a.eval s = V) (hV : Dr w 0 V l) (hx : a.eval x = .slice (some ad) m.length cap) (hX : Dr w 0 (.slice (some ad) m.length cap) m) (hm0 : m ≠ []) (hl : l.length ≤ 1000000) (hm : m.length ≤ 1000000)
    (h : ∀ v' w', Dr w' 0 v' (l ++ m) → w.grownBy w' V.ownBlock → (v'.ownBlock = V.ownBlock ∨ v'.ownBlock = some w.heap.size) → K (a.put (some D) v') w') :
    if Region.wanted o (yielded ops a.tmps) = true then Oper.wp Try.prog o a w K Q else E := by
  have hw : Region.wanted o (yielded ops a.tmps) = true := by simp [Region.wanted, hgd]
  rw [if_pos hw]
  rw [← hD] at h
  obtain ⟨v', w', hr, h2, h3, h4⟩ := push_where o.type V l hV ad m cap hX hm0 hl hm
  unfold Oper.wp execOp
  simp only [ho, resolve, invoke, builtin, Sem.run_bind, Sem.run_pure, Result.andThen_ok, List.map_toArray, List.map_cons, List.map_nil, hs, hx, hr]
  exact h v' w' h2 h3 h4

/-- The rows of a wheel behind a call: those it had, or new ones. -/
def Nr (F' F : Nat → Value) (n : Nat) : Prop := ∀ s g, s < 64 → (F' s).ownBlock = some g → (F s).ownBlock = some g ∨ n ≤ g
/-- What a wheel holds behind Set. -/
def setD (D : Nat → List Dl) (id at1 : Int) (s : Nat) : Nat → List Dl := updD (fun s => rest (fun x => x.1 == id) (D s)) s (rest (fun x => x.1 == id) (D s) ++ [(id, at1)])
set_option maxRecDepth 100000 in
set_option maxHeartbeats 2000000 in
theorem set_any (w : World) (wb : Nat) (F : Nat → Value) (D : Nat → List Dl) (id at1 : Int) (s : Nat) (h : Wh w wb F D) (hl : (cat D 64).length ≤ 100000) (hi : mayI id = true) (ha : mayT at1 = true) (hs : at1 % 64 = s) :
    Calls Try.prog 11 #[.pointer (some ⟨wb, 0, none⟩), .int .i64 id, .int .i64 at1] w fun e w' => e = .returned (.int .i64 0) ∧ ∃ F', Wh w' wb F' (setD D id at1 s) ∧ Kp w w' (rows F wb) ∧ Nr F' F w.heap.size := by
  have hs64 : s < 64 := by omega
  have hal : 0 ≤ at1 ∧ at1 ≤ 1099511627776 := by simpa [mayT] using ha
  have H := hid h
  have HL := hid hl
  have HI := hid hi
  have HA := hid ha
  have HS := hid hs
  have HAL := hid hal
  clear h hl hi ha hs hal
  go_enter Try.func11, Try.ntmps11
  go_wp2_with fail
  refine (zero_no w wb F D H.out).mono ?_
  rintro e w1 ⟨rfl, rfl⟩
  go_wp2_with fail
  refine (id_any _ id).mono ?_
  rintro e w2 ⟨rfl, rfl⟩
  rw [HI.out]
  go_wp2_with fail
  refine (time_any _ at1).mono ?_
  rintro e w2 ⟨rfl, rfl⟩
  rw [HA.out]
  go_wp2_with fail
  refine (isOf_any _ id).mono ?_
  rintro e w3 ⟨rfl, hw3⟩
  have HW3 := hid hw3
  clear hw3
  go_wp2_with fail
  refine (take_of w2 wb F D id H.out HL.out _ HW3.out).mono ?_
  rintro e w4 ⟨v, F', Z, rfl, -, -, hW, hF, hk⟩
  have HE := hid (And.intro hW (And.intro hF hk))
  clear hW hF hk
  go_wp2_with fail
  rw [show at1.tmod 64 = (s : Int) by rw [Int.tmod_eq_emod_of_nonneg HAL.out.1]; exact HS.out]
  obtain ⟨L, hL⟩ : ∃ L, rest (fun x => x.1 == id) (D s) = L := ⟨_, rfl⟩
  have hrow := HE.out.1.row s hs64
  have hcell := HE.out.1.cell hs64
  simp only [hL] at hrow
  obtain ⟨ak, ck, hFs⟩ := hrow.slice
  have hLl : L.length ≤ 100000 := by
    rw [← hL]
    have h1 := ring_le D hs64
    have h2 := HL.out
    have h3 : (rest (fun x => x.1 == id) (D s)).length ≤ (D s).length := List.length_filter_le _ _
    omega
  obtain ⟨N, hN⟩ : ∃ N, L.length = N := ⟨_, rfl⟩
  rw [hN] at hFs
  rw [hFs] at hcell hrow
  have HR := hid hrow
  have HFs := hid hFs
  have HLL := hid (And.intro hLl hL)
  have CK := hid (fun (W : World) (hK : Kp w4 W (F' s).ownBlock.toList) => (show W.cell? ⟨wb, s, none⟩ = some (.slice ak N ck) ∧ W.frozen? ⟨wb, s, none⟩ = false from by
    have hnw : wb ∉ (F' s).ownBlock.toList := fun hm => (HE.out.1.ringlt hs64 (g := wb) (by simpa using hm)).2 rfl
    refine ⟨hK.cell hcell hnw, ?_⟩
    have hb := (hK.block wb HE.out.1.lt hnw).trans HE.out.1.blk
    simp [World.frozen?, hb]))
  have KA := hid ((Kp.drew w4 []).trans (Kp.alloc _ (.cells #[.int .i64 id, .int .i64 at1] 69) []))
  have HO := hid ((Dr.one w4.drew id at1).low (Nat.zero_le _))
  have hwlt : wb < w4.heap.size := HE.out.1.lt
  have hwne : wb ≠ w4.heap.size := by omega
  clear hrow hFs hLl hN
  have hsI : (0 : Int) ≤ s ∧ (s : Int) < 64 := by omega
  obtain ⟨p1, p2⟩ := CK.out w4.drew (Kp.drew _ _)
  obtain ⟨p3, p4⟩ := CK.out (w4.drew.alloc (.cells #[.int .i64 id, .int .i64 at1] 69)) KA.out.nil
  go_region_law
    (first
      | (refine step_pushD (by rfl) _ _ (by rfl) 36 (by rfl) (.slice ak N ck) L _ [(id, at1)] _ (by rfl) (HR.out.keep KA.out) (by rfl) HO.out (by simp) (by have := HLL.out.1; omega) (by simp) ?_; intro v7 w7 hd7 hg7 hw7; obtain ⟨a7, c7, hv7⟩ := hd7.slice; have K7 := hid (KA.out.nil.trans (Kp.ofGrown (rows := (F' s).ownBlock.toList) hg7 (by intro g hg; rw [HFs.out]; simpa using hg))); obtain ⟨q1, q2⟩ := CK.out _ K7.out; have H7 := hid (And.intro hd7 hw7); clear hd7 hg7 hw7)
      | fail)
  all_goals (
    have hv8 := hv7
    rw [show (L ++ [(id, at1)]).length = L.length + 1 by simp] at hv8
    have HF := hid (show Wh (w7.setCell ⟨wb, s, none⟩ (.slice a7 (L.length + 1) c7)) wb (updV F' s (.slice a7 (L.length + 1) c7)) (setD D id at1 s) ∧ Kp w2 (w7.setCell ⟨wb, s, none⟩ (.slice a7 (L.length + 1) c7)) (rows F wb) ∧ Nr (updV F' s (.slice a7 (L.length + 1) c7)) F w2.heap.size by
      refine ⟨?_, (HE.out.2.2.trans (K7.out.mono ?_)).trans ((Kp.setCell w7 ⟨wb, s, none⟩ _).mono ?_), ?_⟩
      · unfold setD
        rw [HLL.out.2]
        refine HE.out.1.ring hs64 K7.out (fun k hk => by simpa using hk) ?_ ?_
        · have := H7.out.1
          rw [hv8] at this
          exact this
        · intro g hg
          have := H7.out.2
          rw [hv8, hg] at this
          rcases this with q | q
          · rw [HFs.out]; exact .inl q.symm
          · have e : g = w4.heap.size + 1 := by simpa using q
            exact .inr (by omega)
      · intro k hk _
        have : (F s).ownBlock = some k := by rw [← HE.out.2.1 s hs64]; simpa using hk
        exact mem_rows.2 (.inr ⟨s, hs64, this⟩)
      · intro k hk _
        simp at hk
        rw [hk]; exact mem_rows.2 (.inl rfl)
      · intro u g hu hg
        by_cases e : u = s
        · subst e
          simp only [updV, if_true] at hg
          have := H7.out.2
          rw [hv8, hg] at this
          rcases this with q | q
          · left; rw [← HE.out.2.1 u hu, HFs.out]; exact q.symm
          · have e : g = w4.heap.size + 1 := by simpa using q
            have := HE.out.2.2.size
            exact .inr (by omega)
        · simp only [updV, if_neg e] at hg
          left; rw [← HE.out.2.1 u hu]; exact hg)
    clear q1 q2 p1 p2 p3 p4
    go_wp2
    go_ret
    exact ⟨rfl, _, HF.out⟩)
end Go.Proofs.Ytoaceeddcnijoaa
