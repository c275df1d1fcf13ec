/- One step: both lists. -/
import Derived.Test.YtcmmckgoiaholaaRlist
import Derived.Test.YtcmmckgoiaholaaNilW
namespace Go.Proofs.Ytcmmckgoiaholaa
open Go.RowKit Go.Shelf Go.Lib Go.Sort Go.Maps

/-- A list, by the blocks that it writes. -/
def Wr (w : World) (wb : Nat) (R : List Nat) (L : List Dl) : Prop := ∃ pb V, R = rows wb pb V ∧ Wt w wb pb V L
/-- Blocks behind a call: those that were, or new ones. -/
def Nw (w : World) (R R' : List Nat) : Prop := ∀ k ∈ R', k ∈ R ∨ w.heap.size ≤ k
theorem Nw.refl (w : World) (R : List Nat) : Nw w R R := fun _ h => .inl h
theorem Nw.trans {w w1 : World} {R R1 R2 : List Nat} (h : Nw w R R1) (h' : Nw w1 R1 R2) (hs : w.heap.size ≤ w1.heap.size) : Nw w R R2 := fun k hk => by
  rcases h' k hk with q | q
  · exact h k q
  · exact .inr (by omega)
variable {w w' : World} {wb rb : Nat} {R : List Nat} {L : List Dl}
theorem Wr.ok (h : Wr w wb R L) : okL L := by
  obtain ⟨pb, V, -, h⟩ := h
  exact h.ok
theorem Wr.vw (h : Wr w wb R L) : Vw w (some ⟨wb, 0, none⟩) L := by
  obtain ⟨pb, V, -, h⟩ := h
  exact h.vw
theorem Wr.lt (h : Wr w wb R L) : ∀ k ∈ R, k < w.heap.size := by
  obtain ⟨pb, V, rfl, h⟩ := h
  exact fun k hk => h.rowslt hk
theorem Wr.kind (h : Wr w wb R L) : ∀ k ∈ R, ∀ c, w.heap[k]? ≠ some (.cells c 28 (0, 0)) ∧ w.heap[k]? ≠ some (.cells c 66 (0, 0)) := by
  obtain ⟨pb, V, rfl, h⟩ := h
  intro k hk c
  obtain ⟨P, hP, -⟩ := h.mp
  obtain ⟨es, cl, hp⟩ := hP.obj
  simp only [rows, List.mem_cons, Option.mem_toList] at hk
  rcases hk with rfl | rfl | hk
  · rw [h.hh]; simp
  · rw [hp]; simp
  · obtain ⟨cur, hc⟩ := h.own hk
    rw [hc]; simp
theorem Wr.keep (h : Wr w wb R L) {rs : List Nat} (hk : Kp w w' rs) (hr : ∀ k ∈ R, k ∉ rs) : Wr w' wb R L := by
  obtain ⟨pb, V, rfl, h⟩ := h
  exact ⟨pb, V, rfl, h.keep hk hr⟩
theorem Wr.same (h : Wr w wb R L) (hk : Kp w w' []) : Wr w' wb R L := h.keep hk (by simp)
theorem Wr.notRef (h : Wr w wb R L) {M : List Dl} (hr : Rf w rb M) : ∀ k ∈ R, k ∉ [rb] := by
  intro k hk hm
  simp at hm
  subst hm
  obtain ⟨v, hb, -⟩ := hr
  exact (h.kind k hk _).1 hb
theorem wr_of_turn {pb : Nat} {V : Value} {L' : List Dl} (h : Turn w w' wb pb V L') : ∃ R', Wr w' wb R' L' ∧ Nw w (rows wb pb V) R' ∧ Kp w w' (rows wb pb V) := by
  obtain ⟨V', h1, h2, h3⟩ := h
  exact ⟨_, ⟨pb, V', rfl, h1⟩, fun k hk => turn_rows h2 hk, h3⟩
theorem Wr.put (h : Wr w wb R L) (t p : Int) : Calls Try.prog 14 #[.pointer (some ⟨wb, 0, none⟩), .int .i64 t, .int .i64 p] w fun e w' => e = .returned (.int .i64 (putE L t p)) ∧ ∃ R', Wr w' wb R' (putL L t p) ∧ Nw w R R' ∧ Kp w w' R := by
  obtain ⟨pb, V, rfl, h⟩ := h
  refine (put_any w wb pb V L t p h).mono ?_
  rintro e w' ⟨rfl, hT⟩
  exact ⟨rfl, wr_of_turn hT⟩
theorem Wr.chg (h : Wr w wb R L) (t p : Int) : Calls Try.prog 15 #[.pointer (some ⟨wb, 0, none⟩), .int .i64 t, .int .i64 p] w fun e w' => e = .returned (.int .i64 (chgE L t p)) ∧ ∃ R', Wr w' wb R' (chgL L t p) ∧ Nw w R R' ∧ Kp w w' R := by
  obtain ⟨pb, V, rfl, h⟩ := h
  refine (change_any w wb pb V L t p h).mono ?_
  rintro e w' ⟨rfl, hT⟩
  exact ⟨rfl, wr_of_turn hT⟩
theorem Wr.lv (h : Wr w wb R L) (t : Int) : Calls Try.prog 16 #[.pointer (some ⟨wb, 0, none⟩), .int .i64 t] w fun e w' => e = .returned (.int .i64 (lvE L t)) ∧ ∃ R', Wr w' wb R' (lvL L t) ∧ Nw w R R' ∧ Kp w w' R := by
  obtain ⟨pb, V, rfl, h⟩ := h
  refine (leave_any w wb pb V L t h).mono ?_
  rintro e w' ⟨rfl, hT⟩
  exact ⟨rfl, wr_of_turn hT⟩
theorem Wr.take (h : Wr w wb R L) : Calls Try.prog 19 #[.pointer (some ⟨wb, 0, none⟩)] w fun e w' => e = .returned (.tuple #[.int .i64 (fstT L), .bool (fstB L)]) ∧ ∃ R', Wr w' wb R' (takeL L) ∧ Nw w R R' ∧ Kp w w' R := by
  obtain ⟨pb, V, rfl, h⟩ := h
  refine (take_any w wb pb V L h).mono ?_
  rintro e w' ⟨rfl, hT⟩
  exact ⟨rfl, wr_of_turn hT⟩
theorem Wr.clear (h : Wr w wb R L) : Calls Try.prog 20 #[.pointer (some ⟨wb, 0, none⟩)] w fun e w' => (∃ v, e = .returned v ∧ Ns w' w.heap.size v ((ordL L).map (·.1))) ∧ ∃ R', Wr w' wb R' [] ∧ Nw w R R' ∧ Kp w w' R := by
  obtain ⟨pb, V, rfl, h⟩ := h
  refine (clear_any w wb pb V L h).mono ?_
  rintro e w' ⟨hn, hT⟩
  exact ⟨hn, wr_of_turn hT.turn⟩
theorem Wr.copy (h : Wr w wb R L) : Calls Try.prog 28 #[.pointer (some ⟨wb, 0, none⟩)] w fun e w' => ∃ wb' R', e = .returned (.pointer (some ⟨wb', 0, none⟩)) ∧ Wr w' wb' R' L ∧ (∀ k ∈ R', w.heap.size ≤ k) ∧ Kp w w' [] := by
  obtain ⟨pb, V, rfl, h⟩ := h
  refine (copy_any w wb pb V L h).mono ?_
  rintro e w' ⟨wb', pb', V', rfl, h1, h2, h3⟩
  exact ⟨wb', _, rfl, ⟨pb', V', rfl, h1⟩, h2, h3⟩
theorem Wr.eq (h : Wr w wb R L) {wb2 : Nat} {R2 : List Nat} {M : List Dl} (h2 : Wr w wb2 R2 M) : Calls Try.prog 11 #[.pointer (some ⟨wb, 0, none⟩), .pointer (some ⟨wb2, 0, none⟩)] w fun e w' => e = .returned (.bool (decide (L = M))) ∧ Kp w w' [] := by
  obtain ⟨pb, V, rfl, h⟩ := h
  obtain ⟨pb2, V2, rfl, h2⟩ := h2
  exact same_any w wb pb wb2 pb2 V V2 L M h h2
set_option maxRecDepth 100000 in
theorem num_any (w : World) (x : Int) : Calls Try.prog 13 #[.int .i64 x] w fun e w' => e = .returned (.int .i64 x) ∧ w' = w := by
  go_enter Try.func13, Try.ntmps13
  go_wp2
  go_ret
  exact ⟨rfl, rfl⟩
theorem num_kp (w : World) (x : Int) : Calls Try.prog 13 #[.int .i64 x] w fun e w' => e = .returned (.int .i64 x) ∧ Kp w w' [] := (num_any w x).mono fun _ _ ⟨a, b⟩ => ⟨a, by rw [b]; exact Kp.refl _ _⟩
/-- What a step does. -/
noncomputable def stepL (L : List Dl) (k t p : Int) : List Dl := if k = 1 then putL L t p else if k = 2 then chgL L t p else if k = 3 then lvL L t else if k = 4 then takeL L else if k = 5 then [] else L
/-- What a step leaves. -/
def Did (w w' : World) (rb : Nat) (R : List Nat) (L' : List Dl) (e : Ending) : Prop := ∃ wb' R', e = .returned (.tuple #[.pointer (some ⟨wb', 0, none⟩), .pointer (some ⟨rb, 0, none⟩), .bool true]) ∧ Wr w' wb' R' L' ∧ Rf w' rb L' ∧ Nw w R R' ∧ Kp w w' (rb :: R)
theorem okL.step {L : List Dl} (h : okL L) (k t p : Int) : okL (stepL L k t p) := by
  unfold stepL
  split
  · exact h.put t p
  split
  · exact h.chg t p
  split
  · exact h.lv t
  split
  · unfold takeL; split
    · exact h.del _
    · exact h
  split
  · exact okL.nil
  · exact h
theorem cell3 (w : World) (a b c : Value) : (w.alloc (.cells #[a, b, c] 32)).cell? ⟨w.heap.size, 0, none⟩ = some a ∧ (w.alloc (.cells #[a, b, c] 32)).cell? ⟨w.heap.size, 1, none⟩ = some b ∧ (w.alloc (.cells #[a, b, c] 32)).cell? ⟨w.heap.size, 2, none⟩ = some c := by
  refine ⟨?_, ?_, ?_⟩ <;> simp
set_option maxRecDepth 100000 in
set_option maxHeartbeats 4000000 in
theorem do_any (w : World) (wb rb : Nat) (R : List Nat) (L : List Dl) (k t p : Int) (h : Wr w wb R L) (h' : Rf w rb L) : Calls Try.prog 8 #[.pointer (some ⟨wb, 0, none⟩), .pointer (some ⟨rb, 0, none⟩), .agg #[.int .i64 k, .int .i64 t, .int .i64 p]] w fun e w' => Did w w' rb R (stepL L k t p) e := by
  have HOK := hid h.ok
  obtain ⟨W0, hW0⟩ : ∃ W0, w.alloc (.cells #[.int .i64 k, .int .i64 t, .int .i64 p] 32) = W0 := ⟨_, rfl⟩
  obtain ⟨c0, c1, c2⟩ := cell3 w (.int .i64 k) (.int .i64 t) (.int .i64 p)
  have kk : Kp w W0 [] := by rw [← hW0]; exact Kp.alloc _ _ _
  have R0 := hid (h.same kk)
  have Q0 := hid (h'.keep kk)
  have K0 := hid kk
  have HLT := hid h.lt
  have HLR := hid h'.lt
  rw [hW0] at c0 c1 c2
  have C0 := hid (And.intro c0 (And.intro c1 c2))
  clear h h' kk
  have CC := hid (fun (w1 : World) (hk : Kp W0 w1 (rb :: R)) => (show w1.cell? ⟨w.heap.size, 0, none⟩ = some (.int .i64 k) ∧ w1.cell? ⟨w.heap.size, 1, none⟩ = some (.int .i64 t) ∧ w1.cell? ⟨w.heap.size, 2, none⟩ = some (.int .i64 p) from by
    have hn : w.heap.size ∉ rb :: R := fun hm => by
      rcases List.mem_cons.1 hm with e | hm
      · have := HLR.out; omega
      · have := HLT.out _ hm; omega
    exact ⟨hk.cell C0.out.1 hn, hk.cell C0.out.2.1 hn, hk.cell C0.out.2.2 hn⟩))
  have KA := hid (show ∀ (A B : World), Kp A B R → Kp A B (rb :: R) from fun _ _ h => h.mono (by intro x hx _; simp [hx]))
  have KB := hid (show ∀ (A B : World), Kp A B [rb] → Kp A B (rb :: R) from fun _ _ h => h.mono (by intro x hx _; simp at hx; simp [hx]))
  have HS := hid (show w.heap.size ≤ W0.heap.size from K0.out.size)
  /- Both have gone on. -/
  have FIN := hid (fun (W1 w1 w2 : World) (R1 : List Nat) (L1 : List Dl) (ha : Kp W0 W1 []) (h1 : Wr w1 wb R1 L1) (h2 : Nw W1 R R1) (h3 : Kp W1 w1 R) (h4 : Rt w1 w2 rb L1) (h5 : Rf w1 rb L) => (show Wr w2 wb R1 L1 ∧ Rf w2 rb L1 ∧ Nw w R R1 ∧ Kp w w2 (rb :: R) from
    ⟨h1.keep h4.2 (h1.notRef h5), h4.1, (fun x hx => (h2 x hx).imp id fun q => Nat.le_trans (Nat.le_trans HS.out ha.size) q), (((K0.out.trans ha).nil).trans (KA.out _ _ h3)).trans (KB.out _ _ h4.2)⟩))
  have kf : k ≠ 0 ∨ k = 0 := by omega
  clear kf
  by_cases k1 : k = 1
  · have kt : (k == 1) = true := by simp [k1]
    have hst : stepL L k t p = putL L t p := by unfold stepL; rw [if_pos k1]
    rw [hst]
    clear hst
    clear k1
    go_enter Try.func8, Try.ntmps8
    go_wp2_with fail
    go_region_held_law (fun w1 => w1.cell? ⟨w.heap.size, 0, none⟩ = some (.int .i64 k) ∧ w1.cell? ⟨w.heap.size, 1, none⟩ = some (.int .i64 t) ∧ w1.cell? ⟨w.heap.size, 2, none⟩ = some (.int .i64 p))
      (first
        | exact CC.out _ (Kp.drew _ _)
        | exact CC.out _ ((Kp.drew _ _).trans (KA.out _ _ hK1))
        | exact CC.out _ (((Kp.drew _ _).trans (KA.out _ _ hK1)).trans hK2.nil)
        | exact CC.out _ (((Kp.drew _ _).trans (KA.out _ _ hK1)).trans (KB.out _ _ hK3.2))
        | exact CC.out _ ((((Kp.drew _ _).trans (KA.out _ _ hK1)).trans (KB.out _ _ hK3.2)).trans hK2.nil)
        | exact CC.out _ ((((Kp.drew _ _).trans (KA.out _ _ hK1)).trans hK2.nil).trans (KB.out _ _ hK3.2)))
      (first
        | (go_at_call 22; have _hh := hK1; refine (rput_any _ rb L t p (((Q0.out.keep (Kp.drew _ [])).off hK1 (R0.out.same (Kp.drew _ [])).kind).keep hK2) HOK.out).mono ?_; rintro e z3 ⟨rfl, hK3⟩)
        | (go_at_call 22; have _hh := hK1; refine (rput_any _ rb L t p ((Q0.out.keep (Kp.drew _ [])).off hK1 (R0.out.same (Kp.drew _ [])).kind) HOK.out).mono ?_; rintro e z3 ⟨rfl, hK3⟩)
        | (go_at_call 13; refine (num_kp _ _).mono ?_; rintro e z2 ⟨rfl, hK2⟩)
        | (go_at_call 14; refine ((R0.out.same (Kp.drew _ [])).put t p).mono ?_; rintro e z1 ⟨rfl, R1, hR1, hN1, hK1⟩))
    have F := hid (FIN.out W0.drew z2 z3 R1 _ (Kp.drew _ _) (hR1.same hK2) hN1 (hK1.trans hK2.nil) hK3 (((Q0.out.keep (Kp.drew _ [])).off hK1 (R0.out.same (Kp.drew _ [])).kind).keep hK2))
    clear hR1 hN1 hK1 hK2 hK3
    obtain ⟨E, hE⟩ : ∃ E, putE L t p = E := ⟨_, rfl⟩
    rw [hE]
    clear hE
    go_wp2
    refine bodyPost_ret (results_tmp3 rfl _ _ _) rfl ?_
    exact ⟨wb, R1, by simp, F.out⟩
  by_cases k2 : k = 2
  · have kt : (k == 2) = true := by simp [k2]
    have kf1 : (k == 1) = false := by simp [k1]
    have hst : stepL L k t p = chgL L t p := by unfold stepL; rw [if_neg k1]; rw [if_pos k2]
    rw [hst]
    clear hst
    clear k1 k2
    go_enter Try.func8, Try.ntmps8
    go_wp2_with fail
    go_region_held_law (fun w1 => w1.cell? ⟨w.heap.size, 0, none⟩ = some (.int .i64 k) ∧ w1.cell? ⟨w.heap.size, 1, none⟩ = some (.int .i64 t) ∧ w1.cell? ⟨w.heap.size, 2, none⟩ = some (.int .i64 p))
      (first
        | exact CC.out _ (Kp.drew _ _)
        | exact CC.out _ ((Kp.drew _ _).trans (KA.out _ _ hK1))
        | exact CC.out _ (((Kp.drew _ _).trans (KA.out _ _ hK1)).trans hK2.nil)
        | exact CC.out _ (((Kp.drew _ _).trans (KA.out _ _ hK1)).trans (KB.out _ _ hK3.2))
        | exact CC.out _ ((((Kp.drew _ _).trans (KA.out _ _ hK1)).trans (KB.out _ _ hK3.2)).trans hK2.nil)
        | exact CC.out _ ((((Kp.drew _ _).trans (KA.out _ _ hK1)).trans hK2.nil).trans (KB.out _ _ hK3.2)))
      (first
        | (go_at_call 23; have _hh := hK1; refine (rchg_any _ rb L t p (((Q0.out.keep (Kp.drew _ [])).off hK1 (R0.out.same (Kp.drew _ [])).kind).keep hK2) HOK.out).mono ?_; rintro e z3 ⟨rfl, hK3⟩)
        | (go_at_call 23; have _hh := hK1; refine (rchg_any _ rb L t p ((Q0.out.keep (Kp.drew _ [])).off hK1 (R0.out.same (Kp.drew _ [])).kind) HOK.out).mono ?_; rintro e z3 ⟨rfl, hK3⟩)
        | (go_at_call 13; refine (num_kp _ _).mono ?_; rintro e z2 ⟨rfl, hK2⟩)
        | (go_at_call 15; refine ((R0.out.same (Kp.drew _ [])).chg t p).mono ?_; rintro e z1 ⟨rfl, R1, hR1, hN1, hK1⟩))
    have F := hid (FIN.out W0.drew z2 z3 R1 _ (Kp.drew _ _) (hR1.same hK2) hN1 (hK1.trans hK2.nil) hK3 (((Q0.out.keep (Kp.drew _ [])).off hK1 (R0.out.same (Kp.drew _ [])).kind).keep hK2))
    clear hR1 hN1 hK1 hK2 hK3
    obtain ⟨E, hE⟩ : ∃ E, chgE L t p = E := ⟨_, rfl⟩
    rw [hE]
    clear hE
    go_wp2
    refine bodyPost_ret (results_tmp3 rfl _ _ _) rfl ?_
    exact ⟨wb, R1, by simp, F.out⟩
  by_cases k3 : k = 3
  · have kt : (k == 3) = true := by simp [k3]
    have kf1 : (k == 1) = false := by simp [k1]
    have kf2 : (k == 2) = false := by simp [k2]
    have hst : stepL L k t p = lvL L t := by unfold stepL; rw [if_neg k1]; rw [if_neg k2]; rw [if_pos k3]
    rw [hst]
    clear hst
    clear k1 k2 k3
    go_enter Try.func8, Try.ntmps8
    go_wp2_with fail
    go_region_held_law (fun w1 => w1.cell? ⟨w.heap.size, 0, none⟩ = some (.int .i64 k) ∧ w1.cell? ⟨w.heap.size, 1, none⟩ = some (.int .i64 t) ∧ w1.cell? ⟨w.heap.size, 2, none⟩ = some (.int .i64 p))
      (first
        | exact CC.out _ (Kp.drew _ _)
        | exact CC.out _ ((Kp.drew _ _).trans (KA.out _ _ hK1))
        | exact CC.out _ (((Kp.drew _ _).trans (KA.out _ _ hK1)).trans hK2.nil)
        | exact CC.out _ (((Kp.drew _ _).trans (KA.out _ _ hK1)).trans (KB.out _ _ hK3.2))
        | exact CC.out _ ((((Kp.drew _ _).trans (KA.out _ _ hK1)).trans (KB.out _ _ hK3.2)).trans hK2.nil)
        | exact CC.out _ ((((Kp.drew _ _).trans (KA.out _ _ hK1)).trans hK2.nil).trans (KB.out _ _ hK3.2)))
      (first
        | (go_at_call 24; have _hh := hK1; refine (rlv_any _ rb L t (((Q0.out.keep (Kp.drew _ [])).off hK1 (R0.out.same (Kp.drew _ [])).kind).keep hK2) HOK.out).mono ?_; rintro e z3 ⟨rfl, hK3⟩)
        | (go_at_call 24; have _hh := hK1; refine (rlv_any _ rb L t ((Q0.out.keep (Kp.drew _ [])).off hK1 (R0.out.same (Kp.drew _ [])).kind) HOK.out).mono ?_; rintro e z3 ⟨rfl, hK3⟩)
        | (go_at_call 13; refine (num_kp _ _).mono ?_; rintro e z2 ⟨rfl, hK2⟩)
        | (go_at_call 16; refine ((R0.out.same (Kp.drew _ [])).lv t).mono ?_; rintro e z1 ⟨rfl, R1, hR1, hN1, hK1⟩))
    have F := hid (FIN.out W0.drew z2 z3 R1 _ (Kp.drew _ _) (hR1.same hK2) hN1 (hK1.trans hK2.nil) hK3 (((Q0.out.keep (Kp.drew _ [])).off hK1 (R0.out.same (Kp.drew _ [])).kind).keep hK2))
    clear hR1 hN1 hK1 hK2 hK3
    obtain ⟨E, hE⟩ : ∃ E, lvE L t = E := ⟨_, rfl⟩
    rw [hE]
    clear hE
    go_wp2
    refine bodyPost_ret (results_tmp3 rfl _ _ _) rfl ?_
    exact ⟨wb, R1, by simp, F.out⟩
  by_cases k4 : k = 4
  · have kt : (k == 4) = true := by simp [k4]
    have kf1 : (k == 1) = false := by simp [k1]
    have kf2 : (k == 2) = false := by simp [k2]
    have kf3 : (k == 3) = false := by simp [k3]
    have hst : stepL L k t p = takeL L := by unfold stepL; rw [if_neg k1, if_neg k2, if_neg k3, if_pos k4]
    rw [hst]
    clear hst k1 k2 k3 k4
    go_enter Try.func8, Try.ntmps8
    go_wp2_with fail
    refine (R0.out.take).mono ?_
    rintro e z1 ⟨rfl, R1, hR1, hN1, hK1⟩
    have T1 := hid (And.intro hR1 (And.intro hN1 (And.intro hK1 (Q0.out.off hK1 R0.out.kind))))
    clear hR1 hN1 hK1
    obtain ⟨E, hE⟩ : ∃ E, fstT L = E := ⟨_, rfl⟩
    obtain ⟨B, hB⟩ : ∃ B, fstB L = B := ⟨_, rfl⟩
    have HEB := hid (And.intro hE hB)
    rw [hE, hB]
    clear hE hB
    go_wp2_with fail
    refine (rtake_any z1 rb L T1.out.2.2.2 HOK.out).mono ?_
    rintro e z2 ⟨rfl, hR2⟩
    rw [HEB.out.1, HEB.out.2]
    have F := hid (FIN.out W0 z1 z2 R1 _ (Kp.refl _ _) T1.out.1 T1.out.2.1 T1.out.2.2.1 hR2 T1.out.2.2.2)
    clear hR2 T1 HEB
    have hbb := fun w => run_equal_bool (P := Try.prog) w 4 B B Try.underlying4
    go_wp2
    refine bodyPost_ret (results_tmp3 rfl _ _ _) rfl ?_
    exact ⟨wb, R1, by simp, F.out⟩
  by_cases k5 : k = 5
  · have kt : (k == 5) = true := by simp [k5]
    have kf1 : (k == 1) = false := by simp [k1]
    have kf2 : (k == 2) = false := by simp [k2]
    have kf3 : (k == 3) = false := by simp [k3]
    have kf4 : (k == 4) = false := by simp [k4]
    have hst : stepL L k t p = [] := by unfold stepL; rw [if_neg k1, if_neg k2, if_neg k3, if_neg k4, if_pos k5]
    rw [hst]
    clear hst k1 k2 k3 k4 k5
    have hlen : ((ordL L).map (·.1)).length ≤ 100000 := by rw [List.length_map, ord_len HOK.out]; have := HOK.out.len; omega
    go_enter Try.func8, Try.ntmps8
    go_wp2_with fail
    refine (R0.out.clear).mono ?_
    rintro e z1 ⟨⟨v1, rfl, hv1⟩, R1, hR1, hN1, hK1⟩
    have T1 := hid (And.intro hR1 (And.intro hN1 (And.intro hK1 (Q0.out.off hK1 R0.out.kind))))
    have V1 := hid hv1
    clear hR1 hN1 hK1 hv1
    go_wp2_with fail
    refine (rclear_any z1 rb L T1.out.2.2.2 HOK.out).mono ?_
    rintro e z2 ⟨⟨v2, rfl, hv2⟩, hR2⟩
    have F := hid (FIN.out W0 z1 z2 R1 _ (Kp.refl _ _) T1.out.1 T1.out.2.1 T1.out.2.2.1 hR2 T1.out.2.2.2)
    have V1b := hid (V1.out.kp hR2.2 (fun g hg => by
      obtain ⟨-, cur, hc⟩ := owns_block V1.out hg
      obtain ⟨u, hb, -⟩ := T1.out.2.2.2
      simp
      exact fun e => block_ne hc hb (by decide) e))
    have V2 := hid hv2
    clear hR2 T1 hv2 V1
    go_wp2_with fail
    refine (ints_any z2 _ _ v1 v2 _ _ V1b.out V2.out hlen).mono ?_
    rintro e z3 ⟨rfl, hk3⟩
    rw [show decide ((ordL L).map (·.1) = (ordL L).map (·.1)) = true from by simp]
    have F3 := hid (show Wr z3 wb R1 [] ∧ Rf z3 rb [] ∧ Nw w R R1 ∧ Kp w z3 (rb :: R) from ⟨F.out.1.same hk3, F.out.2.1.keep hk3, F.out.2.2.1, F.out.2.2.2.trans hk3.nil⟩)
    clear hk3 F V1b V2
    go_wp2
    refine bodyPost_ret (results_tmp3 rfl _ _ _) rfl ?_
    exact ⟨wb, R1, by simp, F3.out⟩
  have hst : stepL L k t p = L := by unfold stepL; rw [if_neg k1, if_neg k2, if_neg k3, if_neg k4, if_neg k5]
  rw [hst]
  clear hst
  have kf1 : (k == 1) = false := by simp [k1]
  have kf2 : (k == 2) = false := by simp [k2]
  have kf3 : (k == 3) = false := by simp [k3]
  have kf4 : (k == 4) = false := by simp [k4]
  have kf5 : (k == 5) = false := by simp [k5]
  by_cases k6 : k = 6
  · have kt : (k == 6) = true := by simp [k6]
    clear k1 k2 k3 k4 k5 k6
    go_enter Try.func8, Try.ntmps8
    go_wp2_with fail
    refine (R0.out.copy).mono ?_
    rintro e z1 ⟨wc, RC, rfl, hC, hCn, hk1⟩
    have C1 := hid (And.intro hC hCn)
    have T1 := hid (show Wr z1 wb R L ∧ Kp W0 z1 R from ⟨R0.out.same hk1, hk1.nil⟩)
    clear hC hCn hk1
    go_wp2_with fail
    refine (C1.out.1.eq T1.out.1).mono ?_
    rintro e z2 ⟨rfl, hk2⟩
    rw [show decide (L = L) = true from by simp]
    have C2 := hid (And.intro (C1.out.1.same hk2) C1.out.2)
    have T2 := hid (show Wr z2 wb R L ∧ Kp W0 z2 R from ⟨T1.out.1.same hk2, T1.out.2.trans hk2.nil⟩)
    clear hk2 C1 T1
    /- The copy stays, whatever is done to the first. -/
    have ST := hid (fun (A B : World) (RA RB : List Nat) (hw : ∀ x ∈ RA, x ∈ R ∨ W0.heap.size ≤ x ∧ x ∉ RC) (hC : Wr A wc RC L) (hk : Kp A B RA) => (show Wr B wc RC L from hC.keep hk (fun x hx hm => by
      rcases hw x hm with q | q
      · have := HLT.out x q
        have := C2.out.2 x hx
        have := HS.out
        omega
      · exact q.2 hx)))
    have NX := hid (fun (A : World) (RA RB : List Nat) (hw : ∀ x ∈ RA, x ∈ R ∨ W0.heap.size ≤ x ∧ x ∉ RC) (hC : Wr A wc RC L) (hz : W0.heap.size ≤ A.heap.size) (hn : Nw A RA RB) => (show ∀ x ∈ RB, x ∈ R ∨ W0.heap.size ≤ x ∧ x ∉ RC from fun x hx => by
      rcases hn x hx with q | q
      · exact hw x q
      · exact .inr ⟨by omega, fun hm => by have := hC.lt x hm; omega⟩))
    have KX := hid (fun (A B : World) (RA : List Nat) (hw : ∀ x ∈ RA, x ∈ R ∨ W0.heap.size ≤ x ∧ x ∉ RC) (hA : Kp W0 A R) (hk : Kp A B RA) => (show Kp W0 B R from hA.past hk (fun x hx hl => by
      rcases hw x hx with q | q
      · exact q
      · omega)))
    go_wp2_with fail
    refine (T2.out.1.put 15 31).mono ?_
    rintro e z3 ⟨rfl, R3, hR3, hN3, hK3⟩
    have w3 := hid (NX.out z2 R R3 (fun x hx => .inl hx) C2.out.1 T2.out.2.size hN3)
    have C3 := hid (ST.out z2 z3 R R3 (fun x hx => .inl hx) C2.out.1 hK3)
    have T3 := hid (And.intro hR3 (KX.out z2 z3 R (fun x hx => .inl hx) T2.out.2 hK3))
    clear hR3 hN3 hK3
    go_wp2_with fail
    refine (T3.out.1.lv 1).mono ?_
    rintro e z4 ⟨rfl, R4, hR4, hN4, hK4⟩
    have w4 := hid (NX.out z3 R3 R4 w3.out C3.out T3.out.2.size hN4)
    have C4 := hid (ST.out z3 z4 R3 R4 w3.out C3.out hK4)
    have T4 := hid (And.intro hR4 (KX.out z3 z4 R3 w3.out T3.out.2 hK4))
    clear hR4 hN4 hK4 T3 C3
    go_wp2_with fail
    refine (T4.out.1.chg 2 30).mono ?_
    rintro e z5 ⟨rfl, R5, hR5, hN5, hK5⟩
    have C5 := hid (ST.out z4 z5 R4 R5 w4.out C4.out hK5)
    have T5 := hid (KX.out z4 z5 R4 w4.out T4.out.2 hK5)
    have F := hid (show Wr z5 wc RC L ∧ Rf z5 rb L ∧ Nw w R RC ∧ Kp w z5 (rb :: R) from ⟨C5.out, Q0.out.off T5.out R0.out.kind, fun x hx => .inr (Nat.le_trans HS.out (C2.out.2 x hx)), (K0.out.nil).trans (KA.out _ _ T5.out)⟩)
    clear hR5 hN5 hK5 T4 C4 C5 T5 T2 ST NX KX
    go_wp2
    refine bodyPost_ret (results_tmp3 rfl _ _ _) rfl ?_
    exact ⟨wc, RC, by simp, F.out⟩
  · have kf6 : (k == 6) = false := by simp [k6]
    clear k1 k2 k3 k4 k5 k6
    go_enter Try.func8, Try.ntmps8
    go_wp2
    refine bodyPost_ret (results_tmp3 rfl _ _ _) rfl ?_
    exact ⟨wb, R, by simp, R0.out, Q0.out, Nw.refl _ _, K0.out.nil⟩
end Go.Proofs.Ytcmmckgoiaholaa
