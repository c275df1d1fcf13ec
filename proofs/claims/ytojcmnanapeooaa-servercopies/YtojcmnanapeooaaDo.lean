/- does: one step, of both. -/
import Derived.Test.YtojcmnanapeooaaRdue
namespace Go.Proofs.Ytojcmnanapeooaa
open Go.RowKit Go.Shelf

/-- What a step does. -/
def stepS (s : Sv) (k at1 : Int) : Sv := if k = 1 then startS s at1 else if k = 2 then useS s else if k = 3 then stopS s at1 else if k = 4 then dueS s at1 else s
theorem ok_step {s : Sv} (h : Ok s) (k at1 : Int) : Ok (stepS s k at1) := by
  unfold stepS
  split
  · exact ok_start h at1
  · split
    · exact ok_use h
    · split
      · exact ok_stop h at1
      · split
        · exact ok_due h at1
        · exact h
/-- Both servers, apart. -/
structure Pr (w : World) (sb : Nat) (v : Value) (rb : Nat) (u : Value) (s : Sv) : Prop where
  a : Sr w sb v s
  b : Rr w rb u s
  ap : ∀ k ∈ rws sb v, k ∉ rws rb u
/-- The same, and the blocks that are theirs. -/
def Bo (w : World) (sb rb : Nat) (rs : List Nat) (s : Sv) : Prop := ∃ v u, Pr w sb v rb u s ∧ rs = rws sb v ++ rws rb u
/-- What a step leaves. -/
def Did (w w' : World) (sb rb : Nat) (rs : List Nat) (s' : Sv) : Prop := ∃ rs', Bo w' sb rb rs' s' ∧ Kp w w' rs ∧ ∀ k ∈ rs', k ∈ rs ∨ w.heap.size ≤ k
section
variable {w w1 w2 : World} {sb rb : Nat} {v u : Value} {s s' : Sv} {rs : List Nat}
theorem Pr.same (h : Pr w sb v rb u s) (hk : Kp w w1 []) : Pr w1 sb v rb u s := ⟨h.a.same hk, h.b.same hk, h.ap⟩
theorem Pr.keep (h : Pr w sb v rb u s) {rows : List Nat} (hk : Kp w w1 rows) (hr : ∀ k ∈ rws sb v ++ rws rb u, k ∉ rows) : Pr w1 sb v rb u s := ⟨h.a.keep hk fun k hm => hr k (List.mem_append.2 (.inl hm)), h.b.keep hk fun k hm => hr k (List.mem_append.2 (.inr hm)), h.ap⟩
theorem Pr.lt (h : Pr w sb v rb u s) : ∀ k ∈ rws sb v ++ rws rb u, k < w.heap.size := fun k hk => by
  rcases List.mem_append.1 hk with q | q
  · exact h.a.rlt k q
  · exact h.b.rlt k q
theorem Pr.other (h : Pr w sb v rb u s) (h1 : Kp w w1 (rws sb v)) : Rr w1 rb u s := h.b.keep h1 fun k hk hm => h.ap k hm hk
theorem Bo.same (h : Bo w sb rb rs s) (hk : Kp w w1 []) : Bo w1 sb rb rs s := by
  obtain ⟨v, u, a, b⟩ := h
  exact ⟨v, u, a.same hk, b⟩
theorem Bo.keep (h : Bo w sb rb rs s) {rows : List Nat} (hk : Kp w w1 rows) (hr : ∀ k ∈ rs, k ∉ rows) : Bo w1 sb rb rs s := by
  obtain ⟨v, u, a, rfl⟩ := h
  exact ⟨v, u, a.keep hk hr, rfl⟩
theorem Bo.lt (h : Bo w sb rb rs s) : ∀ k ∈ rs, k < w.heap.size := by
  obtain ⟨v, u, a, rfl⟩ := h
  exact a.lt
theorem Bo.ok (h : Bo w sb rb rs s) : Ok s := by
  obtain ⟨v, u, a, rfl⟩ := h
  exact a.a.ok
theorem mem_rws {k b : Nat} {x : Value} : k ∈ rws b x ↔ k = b ∨ x.ownBlock = some k := by
  simp only [List.mem_cons, Option.mem_toList]
theorem Pr.step (h : Pr w sb v rb u s) (h1 : Wt w w1 sb v s') (h2 : Rt w1 w2 rb u s') : Did w w2 sb rb (rws sb v ++ rws rb u) s' := by
  obtain ⟨v1, a1, b1⟩ := h1.ex
  obtain ⟨u2, a2, b2⟩ := h2.ex
  have hz := h1.kp.size
  have d1 : ∀ k ∈ rws sb v1, k ∉ rws rb u := fun k hk hm => by
    have hl := h.b.rlt k hm
    rcases mem_rws.1 hk with q | q
    · exact h.ap k (mem_rws.2 (.inl q)) hm
    · rcases b1 k q with r | r
      · exact h.ap k (mem_rws.2 (.inr r)) hm
      · omega
  have d2 : ∀ k ∈ rws sb v1, k ∉ rws rb u2 := fun k hk hm => by
    have hl := a1.rlt k hk
    rcases mem_rws.1 hm with q | q
    · exact d1 k hk (mem_rws.2 (.inl q))
    · rcases b2 k q with r | r
      · exact d1 k hk (mem_rws.2 (.inr r))
      · omega
  refine ⟨_, ⟨v1, u2, ⟨a1.keep h2.kp d1, a2, d2⟩, rfl⟩, (h1.kp.mono fun k hk _ => List.mem_append.2 (.inl hk)).trans (h2.kp.mono fun k hk _ => List.mem_append.2 (.inr hk)), fun k hk => ?_⟩
  rcases List.mem_append.1 hk with q | q
  · rcases mem_rws.1 q with r | r
    · exact .inl (List.mem_append.2 (.inl (mem_rws.2 (.inl r))))
    · rcases b1 k r with t | t
      · exact .inl (List.mem_append.2 (.inl (mem_rws.2 (.inr t))))
      · exact .inr t
  · rcases mem_rws.1 q with r | r
    · exact .inl (List.mem_append.2 (.inr (mem_rws.2 (.inl r))))
    · rcases b2 k r with t | t
      · exact .inl (List.mem_append.2 (.inr (mem_rws.2 (.inr t))))
      · exact .inr (by omega)
theorem Did.before {w0 : World} (h : Did w w2 sb rb rs s') (h0 : Kp w0 w []) : Did w0 w2 sb rb rs s' := by
  obtain ⟨rs', a, b, c⟩ := h
  refine ⟨rs', a, h0.nil.trans b, fun k hk => ?_⟩
  rcases c k hk with q | q
  · exact .inl q
  · exact .inr (Nat.le_trans h0.size q)
theorem cell2 (w : World) (a b : Value) : (w.alloc (.cells #[a, b] 32)).cell? ⟨w.heap.size, 0, none⟩ = some a ∧ (w.alloc (.cells #[a, b] 32)).cell? ⟨w.heap.size, 1, none⟩ = some b := by
  have h := heap_alloc_new w (.cells #[a, b] 32)
  exact ⟨by rw [cell_of_row _ _ _ _ _ _ h]; rfl, by rw [cell_of_row _ _ _ _ _ _ h]; rfl⟩
end
set_option maxRecDepth 100000 in
set_option maxHeartbeats 4000000 in
theorem does_any (hat : AtSame) (w : World) (sb rb : Nat) (rs : List Nat) (s : Sv) (k at1 : Int) (hB : Bo w sb rb rs s) : Calls Try.prog 12 #[.pointer (some ⟨sb, 0, none⟩), .pointer (some ⟨rb, 0, none⟩), .agg #[.int .i64 k, .int .i64 at1]] w fun e w' => e = .returned (.bool true) ∧ Did w w' sb rb rs (stepS s k at1) := by
  obtain ⟨v, u, h, hrs⟩ := hB
  subst hrs
  have HAT := hid hat
  obtain ⟨W0, hW0⟩ : ∃ W0, w.alloc (.cells #[.int .i64 k, .int .i64 at1] 32) = W0 := ⟨_, rfl⟩
  obtain ⟨c0, c1⟩ := cell2 w (.int .i64 k) (.int .i64 at1)
  have kk : Kp w W0 [] := by rw [← hW0]; exact Kp.alloc _ _ _
  have P0 := hid (h.same kk)
  have K0 := hid kk
  have hnm : w.heap.size ∉ rws sb v ++ rws rb u := fun hm => by have := h.lt _ hm; omega
  rw [hW0] at c0 c1
  have C0 := hid (And.intro c0 c1)
  clear h kk hat
  have CC := hid (fun (w1 : World) (hk : Kp W0 w1 (rws sb v ++ rws rb u)) => (show w1.cell? ⟨w.heap.size, 0, none⟩ = some (.int .i64 k) ∧ w1.cell? ⟨w.heap.size, 1, none⟩ = some (.int .i64 at1) from ⟨hk.cell C0.out.1 hnm, hk.cell C0.out.2 hnm⟩))
  have KA := hid (show ∀ (A B : World), Kp A B (rws sb v) → Kp A B (rws sb v ++ rws rb u) from fun _ _ h => h.mono fun k hk _ => List.mem_append.2 (.inl hk))
  have KB := hid (show ∀ (A B : World), Kp A B (rws rb u) → Kp A B (rws sb v ++ rws rb u) from fun _ _ h => h.mono fun k hk _ => List.mem_append.2 (.inr hk))
  clear hnm
  have FIN := hid (fun (W1 w1 w2 : World) (S1 : Sv) (ha : Kp W0 W1 []) (h1 : Wt W1 w1 sb v S1) (h2 : Rt w1 w2 rb u S1) => (show Did w w2 sb rb (rws sb v ++ rws rb u) S1 from ((P0.out.same ha).step h1 h2).before (K0.out.trans ha)))
  by_cases k1 : k = 1
  · have kt : (k == 1) = true := by simp [k1]
    have eS : stepS s k at1 = startS s at1 := by simp [stepS, k1]
    rw [eS]
    clear eS k1
    go_enter Try.func12, Try.ntmps12
    go_wp2_with fail
    go_region_held_law (fun w1 => w1.cell? ⟨w.heap.size, 0, none⟩ = some (.int .i64 k) ∧ w1.cell? ⟨w.heap.size, 1, none⟩ = some (.int .i64 at1))
      (first
        | exact CC.out _ (Kp.drew _ _)
        | exact CC.out _ ((Kp.drew _ _).trans (KA.out _ _ hK1))
        | exact CC.out _ (((Kp.drew _ _).trans (KA.out _ _ hK1)).trans (KB.out _ _ hK2)))
      (first
        | (go_at_call 25; have _hh := hK1; refine (rstart_any _ rb u s at1 ((P0.out.same (Kp.drew _ [])).other hK1)).mono ?_; rintro e z2 ⟨rfl, hT2⟩; have hK2 := hT2.kp)
        | (go_at_call 14; refine (start_any _ sb v s at1 (P0.out.same (Kp.drew _ [])).a).mono ?_; rintro e z1 ⟨rfl, hT1⟩; have hK1 := hT1.kp))
    have DD := hid (FIN.out _ _ _ _ (Kp.drew _ _) hT1 hT2)
    clear hT1 hT2 hK1 hK2
    obtain ⟨E, hE⟩ : ∃ E, startE s at1 = E := ⟨_, rfl⟩
    rw [hE]
    clear hE
    go_wp2
    go_ret
    exact ⟨by simp, DD.out⟩
  by_cases k2 : k = 2
  · have kt : (k == 2) = true := by simp [k2]
    have kf1 : (k == 1) = false := by simp [k1]
    have eS : stepS s k at1 = useS s := by simp [stepS, k2]
    rw [eS]
    clear eS k2 k1
    go_enter Try.func12, Try.ntmps12
    go_wp2_with fail
    refine (use_any _ sb v s P0.out.a).mono ?_
    rintro e z1 ⟨rfl, hT1⟩
    have T1 := hid hT1
    have Q1 := hid (P0.out.other hT1.kp)
    clear hT1
    obtain ⟨fb, hfb⟩ : ∃ fb, useB s = fb := ⟨_, rfl⟩
    obtain ⟨fe, hfe⟩ : ∃ fe, useE s = fe := ⟨_, rfl⟩
    rw [hfb, hfe]
    have HF := hid (And.intro hfb hfe)
    clear hfb hfe
    go_wp2_with fail
    refine (ruse_any HAT.out _ rb u s Q1.out).mono ?_
    rintro e z2 ⟨rfl, hQ2⟩
    rw [HF.out.1, HF.out.2]
    have DD := hid (FIN.out W0 _ _ _ (Kp.refl _ _) T1.out hQ2)
    clear hQ2
    have hbb : (fb == fb) = true := by simp
    go_wp2
    go_ret
    exact ⟨rfl, DD.out⟩
  by_cases k3 : k = 3
  · have kt : (k == 3) = true := by simp [k3]
    have kf1 : (k == 1) = false := by simp [k1]
    have kf2 : (k == 2) = false := by simp [k2]
    have eS : stepS s k at1 = stopS s at1 := by simp [stepS, k3]
    rw [eS]
    clear eS k3 k1 k2
    go_enter Try.func12, Try.ntmps12
    go_wp2_with fail
    go_region_held_law (fun w1 => w1.cell? ⟨w.heap.size, 0, none⟩ = some (.int .i64 k) ∧ w1.cell? ⟨w.heap.size, 1, none⟩ = some (.int .i64 at1))
      (first
        | exact CC.out _ (Kp.drew _ _)
        | exact CC.out _ ((Kp.drew _ _).trans (KA.out _ _ hK1))
        | exact CC.out _ (((Kp.drew _ _).trans (KA.out _ _ hK1)).trans (KB.out _ _ hK2)))
      (first
        | (go_at_call 27; have _hh := hK1; refine (rstop_any HAT.out _ rb u s at1 ((P0.out.same (Kp.drew _ [])).other hK1)).mono ?_; rintro e z2 ⟨rfl, hT2⟩; have hK2 := hT2.kp)
        | (go_at_call 16; refine (stop_any _ sb v s at1 (P0.out.same (Kp.drew _ [])).a).mono ?_; rintro e z1 ⟨rfl, hT1⟩; have hK1 := hT1.kp))
    have DD := hid (FIN.out _ _ _ _ (Kp.drew _ _) hT1 hT2)
    clear hT1 hT2 hK1 hK2
    obtain ⟨E, hE⟩ : ∃ E, stopE s at1 = E := ⟨_, rfl⟩
    rw [hE]
    clear hE
    go_wp2
    go_ret
    exact ⟨by simp, DD.out⟩
  by_cases k4 : k = 4
  · have kt : (k == 4) = true := by simp [k4]
    have kf1 : (k == 1) = false := by simp [k1]
    have kf2 : (k == 2) = false := by simp [k2]
    have kf3 : (k == 3) = false := by simp [k3]
    have eS : stepS s k at1 = dueS s at1 := by simp [stepS, k4]
    rw [eS]
    clear eS k4 k1 k2 k3
    go_enter Try.func12, Try.ntmps12
    go_wp2_with fail
    go_region_held_law (fun w1 => w1.cell? ⟨w.heap.size, 0, none⟩ = some (.int .i64 k) ∧ w1.cell? ⟨w.heap.size, 1, none⟩ = some (.int .i64 at1))
      (first
        | exact CC.out _ (Kp.drew _ _)
        | exact CC.out _ ((Kp.drew _ _).trans (KA.out _ _ hK1))
        | exact CC.out _ (((Kp.drew _ _).trans (KA.out _ _ hK1)).trans (KB.out _ _ hK2)))
      (first
        | (go_at_call 28; have _hh := hK1; refine (rdue_any _ rb u s at1 ((P0.out.same (Kp.drew _ [])).other hK1)).mono ?_; rintro e z2 ⟨rfl, hT2⟩; have hK2 := hT2.kp)
        | (go_at_call 17; refine (due_any _ sb v s at1 (P0.out.same (Kp.drew _ [])).a).mono ?_; rintro e z1 ⟨rfl, hT1⟩; have hK1 := hT1.kp))
    have DD := hid (FIN.out _ _ _ _ (Kp.drew _ _) hT1 hT2)
    clear hT1 hT2 hK1 hK2
    obtain ⟨E, hE⟩ : ∃ E, dueN s at1 = E := ⟨_, rfl⟩
    rw [hE]
    clear hE
    go_wp2
    go_ret
    exact ⟨by simp, DD.out⟩
  have hn : stepS s k at1 = s := by simp [stepS, k1, k2, k3, k4]
  rw [hn]
  have kf1 : (k == 1) = false := by simp [k1]
  have kf2 : (k == 2) = false := by simp [k2]
  have kf3 : (k == 3) = false := by simp [k3]
  have kf4 : (k == 4) = false := by simp [k4]
  clear hn k1 k2 k3 k4
  have DD := hid (show Did w W0 sb rb (rws sb v ++ rws rb u) s from ⟨_, ⟨v, u, P0.out, rfl⟩, K0.out.nil, fun k hk => .inl hk⟩)
  go_enter Try.func12, Try.ntmps12
  go_wp2
  go_ret
  exact ⟨rfl, DD.out⟩
end Go.Proofs.Ytojcmnanapeooaa
