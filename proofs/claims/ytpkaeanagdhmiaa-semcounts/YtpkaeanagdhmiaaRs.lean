/- The reference: semaphores and barriers. -/
import Derived.Test.YtpkaeanagdhmiaaSw
import Derived.BigQuiet
namespace Go.Proofs.Ytpkaeanagdhmiaa
open Go.RowKit Go.Shelf Go.Lib Go.Sort Go.Maps
attribute [local go_sem] Oper.semAt_some

/-- The reference's semaphore (38) or barrier (54) at block rb, its list at block q. -/
def Rm (T : Nat) (w : World) (rb q : Nat) (v : Int) (L : List Dl) : Prop :=
  (T = 38 ∨ T = 54) ∧ w.heap[rb]? = some (.cells #[.int .i64 v, .pointer (some ⟨q, 0, none⟩)] T (0, 0)) ∧ Rf w q L
variable {T : Nat} {w w' : World} {rb q : Nat} {v : Int} {L : List Dl}
theorem Rf.has41 {w : World} {q : Nat} {L : List Dl} (h : Rf w q L) : ∃ c, w.heap[q]? = some (.cells c 41 (0, 0)) := by
  obtain ⟨v, hb, -⟩ := h
  exact ⟨_, hb⟩
theorem Rm.ne (h : Rm T w rb q v L) : rb ≠ q := by
  rintro rfl
  obtain ⟨c, hc⟩ := h.2.2.has41
  have := h.2.1
  rw [hc] at this
  simp at this
  rcases h.1 with e | e <;> rw [e] at this <;> exact absurd this.2 (by decide)
theorem Rm.lt (h : Rm T w rb q v L) : rb < w.heap.size ∧ q < w.heap.size := ⟨lt_of_block h.2.1, h.2.2.lt⟩
theorem Rm.kind (h : Rm T w rb q v L) : ∀ k ∈ [rb, q], ∀ c, w.heap[k]? ≠ some (.cells c 87 (0, 0)) := by
  intro k hk c
  obtain ⟨d, hc⟩ := h.2.2.has41
  simp at hk
  rcases hk with rfl | rfl
  · rw [h.2.1]
    rcases h.1 with e | e <;> rw [e] <;> simp
  · rw [hc]; simp
theorem Rf.stay {w w' : World} {q : Nat} {L : List Dl} (h : Rf w q L) {rs : List Nat} (hk : Kp w w' rs) (hq : q ∉ rs) (hr : ∀ k ∈ rs, ∀ c, w.heap[k]? ≠ some (.cells c 87 (0, 0))) : Rf w' q L := by
  obtain ⟨v, hb, hd⟩ := h
  refine ⟨v, (hk.block q (lt_of_block hb) hq).trans hb, hd.kp hk fun g hg hm => ?_⟩
  obtain ⟨-, cur, hc⟩ := owns_block hd hg
  exact hr g hm _ hc
theorem Rm.keep (h : Rm T w rb q v L) {rs : List Nat} (hk : Kp w w' rs) (h1 : rb ∉ rs) (h2 : q ∉ rs) (hr : ∀ k ∈ rs, ∀ c, w.heap[k]? ≠ some (.cells c 87 (0, 0))) : Rm T w' rb q v L :=
  ⟨h.1, (hk.block rb h.lt.1 h1).trans h.2.1, h.2.2.stay hk h2 hr⟩
theorem Rm.same (h : Rm T w rb q v L) (hk : Kp w w' []) : Rm T w' rb q v L := h.keep hk (by simp) (by simp) (by simp)
/-- What a call leaves of it. -/
def Rto (T : Nat) (w w' : World) (rb q : Nat) (v : Int) (L : List Dl) : Prop := ∃ q', Rm T w' rb q' v L ∧ (q' = q ∨ w.heap.size ≤ q') ∧ Kp w w' [rb, q]
theorem Rto.stay (h : Rm T w rb q v L) (hk : Kp w w' []) : Rto T w w' rb q v L := ⟨q, h.same hk, .inl rfl, hk.nil⟩
theorem set_two0 {w : World} {b : Nat} {u v x : Value} {t : TypeId} (h : w.heap[b]? = some (.cells #[u, v] t (0, 0))) : (w.setCell ⟨b, 0, none⟩ x).heap[b]? = some (.cells #[x, v] t (0, 0)) := by
  rw [heap_setCell_same w b 0 _ t x h]
  rfl
/-- Its number has changed. -/
theorem rto_of_set (h : Rm T w rb q v L) (u : Int) : Rto T w (w.setCell ⟨rb, 0, none⟩ (.int .i64 u)) rb q u L := by
  have hn := h.ne
  have kd := h.kind
  refine ⟨q, ⟨h.1, set_two0 h.2.1, h.2.2.stay (Kp.setCell w _ _) (by simp; exact fun e => hn e.symm) (fun k hk c => ?_)⟩, .inl rfl, (Kp.setCell w _ _).mono (fun k hk _ => by simp at hk; simp [hk])⟩
  simp at hk
  exact kd k (by simp [hk]) c
/-- Its list is another one. -/
theorem rto_of_ptr {c : Nat} {M : List Dl} (h : Rm T w rb q v L) (hc : Rf w c M) (hn : rb ≠ c) : Rm T (w.setCell ⟨rb, 1, none⟩ (.pointer (some ⟨c, 0, none⟩))) rb c v M ∧ Kp w (w.setCell ⟨rb, 1, none⟩ (.pointer (some ⟨c, 0, none⟩))) [rb] := by
  have kd := h.kind
  refine ⟨⟨h.1, set_two1 h.2.1, hc.stay (Kp.setCell w _ _) (by simp; exact fun e => hn e.symm) (fun k hk c => ?_)⟩, Kp.setCell w _ _⟩
  simp at hk
  exact kd k (by simp [hk]) c
/-- Its list has changed in place. -/
theorem rto_of_rt {M : List Dl} (h : Rm T w rb q v L) (hr : Rt w w' q M) : Rto T w w' rb q v M :=
  ⟨q, ⟨h.1, (hr.2.block rb h.lt.1 (by simp; exact h.ne)).trans h.2.1, hr.1⟩, .inl rfl, hr.2.mono (fun k hk _ => by simp at hk; simp [hk])⟩
set_option maxRecDepth 100000 in
theorem rcopy_any (w : World) (q : Nat) (L : List Dl) (h : Rf w q L) (hok : okL L) : Calls Try.prog 58 #[.pointer (some ⟨q, 0, none⟩)] w fun e w' => ∃ c, e = .returned (.pointer (some ⟨c, 0, none⟩)) ∧ w.heap.size ≤ c ∧ Rf w' c L ∧ Kp w w' [] := by
  obtain ⟨v, hb, hd⟩ := h
  obtain ⟨ao, cap, rfl⟩ := hd.slice
  obtain ⟨N, hN⟩ : ∃ N, L.length = N := ⟨_, rfl⟩
  rw [hN] at hb
  have HD := hid hd
  rw [hN] at HD
  have HN := hid hN
  have hlen : L.length ≤ 16 := hok.len
  have cc := cell_one hb
  clear hb hd hN hok
  go_enter Try.func58, Try.ntmps58
  go_wp2_with (refine wpList_joinD rfl _ _ rfl w.heap.size 0 (.slice none 0 0) _ [] L rfl (Dr.nil _ _) rfl HD.out (by simp) (by omega) (Nat.le_refl _) ?_; intro v2 w2 hN2 hG2; rw [List.nil_append] at hN2; obtain ⟨ao2, cp2, hv2⟩ := hN2.slice; obtain ⟨n2, hn2⟩ : ∃ n2, L.length = n2 := ⟨_, rfl⟩; rw [hn2] at hv2; subst hv2; have K2 := hid (Kp.ofGrown (rows := []) hG2 (by intro g hg; simp [Value.ownBlock] at hg)); have N2 := hid hN2; clear hN2 hG2 hn2)
  have ka := Kp.alloc w2 (.cells #[.slice ao2 n2 cp2] 41) []
  have HX := hid (show w.heap.size ≤ w2.heap.size ∧ Rf (w2.alloc (.cells #[.slice ao2 n2 cp2] 41)) w2.heap.size L ∧ Kp w (w2.alloc (.cells #[.slice ao2 n2 cp2] 41)) [] from
    ⟨K2.out.size, ⟨_, heap_alloc_new w2 _, (N2.out.low (Nat.zero_le _)).keep ka⟩, K2.out.trans ka⟩)
  clear ka
  go_ret
  exact ⟨_, rfl, HX.out⟩

set_option maxRecDepth 100000 in
theorem rsnew (w : World) (v : Int) (h0 : 0 ≤ v) (h1 : v ≤ 32767) : Calls Try.prog 9 #[.int .i64 v] w fun e w' => ∃ rb, e = .returned (.pointer (some ⟨rb, 0, none⟩)) ∧ ∃ q, Rm 38 w' rb q v [] ∧ w.heap.size ≤ rb ∧ w.heap.size ≤ q ∧ Kp w w' [] := by
  have g0 : ¬ v < 0 := by omega
  have g1 : ¬ 32767 < v := by omega
  have ka := Kp.alloc w (.cells #[.slice none 0 0] 41) []
  have kb := Kp.alloc (w.alloc (.cells #[.slice none 0 0] 41)) (.cells #[.int .i64 v, .pointer (some ⟨w.heap.size, 0, none⟩)] 38) []
  have e1 : (w.alloc (.cells #[.slice none 0 0] 41)).heap.size = w.heap.size + 1 := by simp
  have HX := hid (show Rm 38 ((w.alloc (.cells #[.slice none 0 0] 41)).alloc (.cells #[.int .i64 v, .pointer (some ⟨w.heap.size, 0, none⟩)] 38)) (w.heap.size + 1) w.heap.size v [] ∧ w.heap.size ≤ w.heap.size + 1 ∧ w.heap.size ≤ w.heap.size ∧ Kp w ((w.alloc (.cells #[.slice none 0 0] 41)).alloc (.cells #[.int .i64 v, .pointer (some ⟨w.heap.size, 0, none⟩)] 38)) [] from
    ⟨⟨by simp, by have := heap_alloc_new (w.alloc (.cells #[.slice none 0 0] 41)) (.cells #[.int .i64 v, .pointer (some ⟨w.heap.size, 0, none⟩)] 38); rw [e1] at this; exact this, Rf.keep ⟨_, heap_alloc_new w _, Dr.nil _ _⟩ kb⟩, by omega, Nat.le_refl _, ka.trans kb⟩)
  clear ka kb e1 h0 h1
  go_enter Try.func9, Try.ntmps9
  go_wp2
  go_ret
  exact ⟨_, rfl, _, HX.out⟩
set_option maxRecDepth 100000 in
theorem rsnew_no (w : World) (v : Int) (h : v < 0 ∨ 32767 < v) : Calls Try.prog 9 #[.int .i64 v] w fun e w' => e = .returned (.pointer none) ∧ w' = w := by
  by_cases g0 : v < 0
  · clear h
    go_enter Try.func9, Try.ntmps9
    go_wp2
    go_ret
    exact ⟨rfl, rfl⟩
  · have g1 : 32767 < v := by omega
    clear h
    go_enter Try.func9, Try.ntmps9
    go_wp2
    go_ret
    exact ⟨rfl, rfl⟩
set_option maxRecDepth 100000 in
set_option maxHeartbeats 1000000 in
/-- Same, of two that are there. -/
theorem rssame (w : World) (rb q rb2 q2 : Nat) (v u : Int) (L M : List Dl) (h1 : Rm 38 w rb q v L) (h2 : Rm 38 w rb2 q2 u M) (hl : L.length ≤ 16) (hm : M.length ≤ 16) : Calls Try.prog 25 #[.pointer (some ⟨rb, 0, none⟩), .pointer (some ⟨rb2, 0, none⟩)] w fun e w' => e = .returned (.bool (decide (v = u) && decide (L = M))) ∧ Kp w w' [] := by
  have a0 := cell_two0 h1.2.1
  have a1 := cell_two1 h1.2.1
  have b0 := cell_two0 h2.2.1
  have b1 := cell_two1 h2.2.1
  have CC := hid (fun (z : World) (hk : Kp w z []) => And.intro (hk.cell a0 (by simp)) (And.intro (hk.cell a1 (by simp)) (And.intro (hk.cell b0 (by simp)) (hk.cell b1 (by simp)))))
  have HS := hid (fun (z : World) (hk : Kp w z []) => rsame_any z q q2 L M (h1.2.2.keep hk) (h2.2.2.keep hk) hl hm)
  clear h1 h2 hl hm
  generalize decide (L = M) = S at HS ⊢
  by_cases hvu : v = u
  · have hd : decide (v = u) = true := by simp [hvu]
    have he : (v == u) = true := by simp [hvu]
    rw [hd, Bool.true_and]
    clear hd hvu
    go_enter Try.func25, Try.ntmps25
    go_wp2_with fail
    go_region_held_law (fun w1 => w1.cell? ⟨rb, 0, none⟩ = some (.int .i64 v) ∧ w1.cell? ⟨rb, 1, none⟩ = some (.pointer (some ⟨q, 0, none⟩)) ∧ w1.cell? ⟨rb2, 0, none⟩ = some (.int .i64 u) ∧ w1.cell? ⟨rb2, 1, none⟩ = some (.pointer (some ⟨q2, 0, none⟩)))
      (first
        | exact CC.out _ (Kp.drew _ _)
        | exact CC.out _ ((Kp.drew _ _).trans hK1))
      (first | (go_at_call 52; refine (HS.out _ (Kp.drew _ _)).mono ?_; rintro e z1 ⟨rfl, hK1⟩) | fail)
    have HK := hid ((Kp.drew w []).trans hK1)
    clear hK1
    go_wp2
    go_ret
    exact ⟨rfl, HK.out⟩
  · have hd : decide (v = u) = false := by simp [hvu]
    have he : (v == u) = false := by simp [hvu]
    rw [hd, Bool.false_and]
    clear hvu
    go_enter Try.func25, Try.ntmps25
    go_wp2_with fail
    go_quiet (fail)
    go_wp2
    go_ret
    exact ⟨rfl, Kp.drewN _ _ _⟩
set_option maxRecDepth 100000 in
theorem rssame_no (w : World) (p p2 : Option Addr) (h : p = none ∨ p2 = none) : Calls Try.prog 25 #[.pointer p, .pointer p2] w fun e w' => e = .returned (.bool (decide (p.isSome = p2.isSome))) ∧ w' = w := by
  cases p with
  | none =>
    cases p2 with
    | none =>
      clear h
      go_enter Try.func25, Try.ntmps25
      go_wp2
      go_ret
      exact ⟨rfl, rfl⟩
    | some a =>
      clear h
      go_enter Try.func25, Try.ntmps25
      go_wp2
      go_ret
      exact ⟨rfl, rfl⟩
  | some a =>
    cases p2 with
    | none =>
      clear h
      go_enter Try.func25, Try.ntmps25
      go_wp2
      go_ret
      exact ⟨rfl, rfl⟩
    | some b => exact absurd h (by simp)

set_option maxRecDepth 100000 in
theorem rbnew (w : World) (v : Int) (h0 : 1 ≤ v) (h1 : v ≤ 16) : Calls Try.prog 19 #[.int .i64 v] w fun e w' => ∃ rb, e = .returned (.pointer (some ⟨rb, 0, none⟩)) ∧ ∃ q, Rm 54 w' rb q v [] ∧ w.heap.size ≤ rb ∧ w.heap.size ≤ q ∧ Kp w w' [] := by
  have g0 : ¬ v < 1 := by omega
  have g1 : ¬ 16 < v := by omega
  have ka := Kp.alloc w (.cells #[.slice none 0 0] 41) []
  have kb := Kp.alloc (w.alloc (.cells #[.slice none 0 0] 41)) (.cells #[.int .i64 v, .pointer (some ⟨w.heap.size, 0, none⟩)] 54) []
  have e1 : (w.alloc (.cells #[.slice none 0 0] 41)).heap.size = w.heap.size + 1 := by simp
  have HX := hid (show Rm 54 ((w.alloc (.cells #[.slice none 0 0] 41)).alloc (.cells #[.int .i64 v, .pointer (some ⟨w.heap.size, 0, none⟩)] 54)) (w.heap.size + 1) w.heap.size v [] ∧ w.heap.size ≤ w.heap.size + 1 ∧ w.heap.size ≤ w.heap.size ∧ Kp w ((w.alloc (.cells #[.slice none 0 0] 41)).alloc (.cells #[.int .i64 v, .pointer (some ⟨w.heap.size, 0, none⟩)] 54)) [] from
    ⟨⟨by simp, by have := heap_alloc_new (w.alloc (.cells #[.slice none 0 0] 41)) (.cells #[.int .i64 v, .pointer (some ⟨w.heap.size, 0, none⟩)] 54); rw [e1] at this; exact this, Rf.keep ⟨_, heap_alloc_new w _, Dr.nil _ _⟩ kb⟩, by omega, Nat.le_refl _, ka.trans kb⟩)
  clear ka kb e1 h0 h1
  go_enter Try.func19, Try.ntmps19
  go_wp2
  go_ret
  exact ⟨_, rfl, _, HX.out⟩
set_option maxRecDepth 100000 in
theorem rbnew_no (w : World) (v : Int) (h : v < 1 ∨ 16 < v) : Calls Try.prog 19 #[.int .i64 v] w fun e w' => e = .returned (.pointer none) ∧ w' = w := by
  by_cases g0 : v < 1
  · clear h
    go_enter Try.func19, Try.ntmps19
    go_wp2
    go_ret
    exact ⟨rfl, rfl⟩
  · have g1 : 16 < v := by omega
    clear h
    go_enter Try.func19, Try.ntmps19
    go_wp2
    go_ret
    exact ⟨rfl, rfl⟩
set_option maxRecDepth 100000 in
set_option maxHeartbeats 1000000 in
/-- Same, of two that are there. -/
theorem rbsame (w : World) (rb q rb2 q2 : Nat) (v u : Int) (L M : List Dl) (h1 : Rm 54 w rb q v L) (h2 : Rm 54 w rb2 q2 u M) (hl : L.length ≤ 16) (hm : M.length ≤ 16) : Calls Try.prog 27 #[.pointer (some ⟨rb, 0, none⟩), .pointer (some ⟨rb2, 0, none⟩)] w fun e w' => e = .returned (.bool (decide (v = u) && decide (L = M))) ∧ Kp w w' [] := by
  have a0 := cell_two0 h1.2.1
  have a1 := cell_two1 h1.2.1
  have b0 := cell_two0 h2.2.1
  have b1 := cell_two1 h2.2.1
  have CC := hid (fun (z : World) (hk : Kp w z []) => And.intro (hk.cell a0 (by simp)) (And.intro (hk.cell a1 (by simp)) (And.intro (hk.cell b0 (by simp)) (hk.cell b1 (by simp)))))
  have HS := hid (fun (z : World) (hk : Kp w z []) => rsame_any z q q2 L M (h1.2.2.keep hk) (h2.2.2.keep hk) hl hm)
  clear h1 h2 hl hm
  generalize decide (L = M) = S at HS ⊢
  by_cases hvu : v = u
  · have hd : decide (v = u) = true := by simp [hvu]
    have he : (v == u) = true := by simp [hvu]
    rw [hd, Bool.true_and]
    clear hd hvu
    go_enter Try.func27, Try.ntmps27
    go_wp2_with fail
    go_region_held_law (fun w1 => w1.cell? ⟨rb, 0, none⟩ = some (.int .i64 v) ∧ w1.cell? ⟨rb, 1, none⟩ = some (.pointer (some ⟨q, 0, none⟩)) ∧ w1.cell? ⟨rb2, 0, none⟩ = some (.int .i64 u) ∧ w1.cell? ⟨rb2, 1, none⟩ = some (.pointer (some ⟨q2, 0, none⟩)))
      (first
        | exact CC.out _ (Kp.drew _ _)
        | exact CC.out _ ((Kp.drew _ _).trans hK1))
      (first | (go_at_call 52; refine (HS.out _ (Kp.drew _ _)).mono ?_; rintro e z1 ⟨rfl, hK1⟩) | fail)
    have HK := hid ((Kp.drew w []).trans hK1)
    clear hK1
    go_wp2
    go_ret
    exact ⟨rfl, HK.out⟩
  · have hd : decide (v = u) = false := by simp [hvu]
    have he : (v == u) = false := by simp [hvu]
    rw [hd, Bool.false_and]
    clear hvu
    go_enter Try.func27, Try.ntmps27
    go_wp2_with fail
    go_quiet (fail)
    go_wp2
    go_ret
    exact ⟨rfl, Kp.drewN _ _ _⟩
set_option maxRecDepth 100000 in
theorem rbsame_no (w : World) (p p2 : Option Addr) (h : p = none ∨ p2 = none) : Calls Try.prog 27 #[.pointer p, .pointer p2] w fun e w' => e = .returned (.bool (decide (p.isSome = p2.isSome))) ∧ w' = w := by
  cases p with
  | none =>
    cases p2 with
    | none =>
      clear h
      go_enter Try.func27, Try.ntmps27
      go_wp2
      go_ret
      exact ⟨rfl, rfl⟩
    | some a =>
      clear h
      go_enter Try.func27, Try.ntmps27
      go_wp2
      go_ret
      exact ⟨rfl, rfl⟩
  | some a =>
    cases p2 with
    | none =>
      clear h
      go_enter Try.func27, Try.ntmps27
      go_wp2
      go_ret
      exact ⟨rfl, rfl⟩
    | some b => exact absurd h (by simp)

set_option maxRecDepth 100000 in
/-- Wait. -/
theorem rswait (w : World) (rb q : Nat) (v : Int) (L : List Dl) (t p : Int) (h : Rm 38 w rb q v L) (hok : okL L) (hv : Sok v L) : Calls Try.prog 37 #[.pointer (some ⟨rb, 0, none⟩), .int .i64 t, .int .i64 p] w fun e w' => e = .returned (.tuple #[.bool (waB v L t p), .int .i64 (putE L t p)]) ∧ Rto 38 w w' rb q (waV v L t p) (waL v L t p) := by
  have HC := hid (rcopy_any w q L h.2.2 hok)
  have HP := hid (fun (z : World) (c : Nat) (hz : Rf z c L) => rput_any z c L t p hz hok)
  have HM := hid h
  have a0 := cell_two0 h.2.1
  have a1 := cell_two1 h.2.1
  have HLT := hid h.lt
  have HA := hid (fun (z : World) (hk : Kp w z []) => And.intro (hk.cell a0 (by simp)) (And.intro (free_two ((hk.block rb h.lt.1 (by simp)).trans h.2.1) 0) (And.intro (free_two ((hk.block rb h.lt.1 (by simp)).trans h.2.1) 1) (hk.cell a1 (by simp)))))
  clear h hok a0
  have PS := hid (put_same (L := L) (t := t) (p := p))
  unfold waV waL waB
  generalize putL L t p = PL at HP PS ⊢
  generalize putE L t p = E at HP PS ⊢
  by_cases hE : E = 0
  · subst hE
    by_cases h0 : 0 < v
    · have hwr : IntKind.i64.wrap (v - 1) = v - 1 := IntWalk.i64_in _ ⟨by omega, by have := hv.hi; omega⟩
      rw [if_pos (by simp [h0]), if_pos h0, show (decide ((0 : Int) = 0) && decide (0 < v)) = true by simp [h0]]
      clear hv
      go_enter Try.func37, Try.ntmps37
      go_wp2_with fail
      refine HC.out.mono ?_
      rintro e z1 ⟨c, rfl, hc, hz, hk⟩
      have H1 := hid (And.intro hc hk)
      have HZ := hid hz
      clear hc hz hk a1
      go_wp2_with fail
      refine (HP.out z1 c HZ.out).mono ?_
      rintro e z2 ⟨rfl, hr⟩
      have K2 := hid (show Kp w z2 [] from H1.out.2.past hr.2 (fun k hk hl => by have := H1.out.1; simp at hk; omega))
      obtain ⟨d0, f0, f1, d1⟩ := HA.out z2 K2.out
      clear hr
      go_wp2
      go_ret2
      refine ⟨rfl, ?_⟩
      obtain ⟨q', m, n, k⟩ := rto_of_set (HM.out.same K2.out) (v - 1)
      exact ⟨q', m, n.imp id (fun h => Nat.le_trans K2.out.size h), K2.out.nil.trans k⟩
    · rw [if_neg (by simp [h0]), if_neg h0, show (decide ((0 : Int) = 0) && decide (0 < v)) = false by simp [h0]]
      clear hv
      go_enter Try.func37, Try.ntmps37
      go_wp2_with fail
      refine HC.out.mono ?_
      rintro e z1 ⟨c, rfl, hc, hz, hk⟩
      have H1 := hid (And.intro hc hk)
      have HZ := hid hz
      clear hc hz hk a1
      go_wp2_with fail
      refine (HP.out z1 c HZ.out).mono ?_
      rintro e z2 ⟨rfl, hr⟩
      have HR := hid hr
      have K2 := hid (show Kp w z2 [] from H1.out.2.past hr.2 (fun k hk hl => by have := H1.out.1; simp at hk; omega))
      obtain ⟨d0, f0, f1, d1⟩ := HA.out z2 K2.out
      clear hr
      go_wp2
      go_ret2
      refine ⟨rfl, c, ?_⟩
      obtain ⟨m, k⟩ := rto_of_ptr (HM.out.same K2.out) HR.out.1 (by have := HLT.out; have := H1.out.1; omega)
      exact ⟨m, .inr H1.out.1, K2.out.nil.trans (k.mono (fun k hk _ => by simp at hk; simp [hk]))⟩
  · have he : (E != 0) = true := by simp [hE]
    rw [if_neg (by simp [hE]), show (decide (E = 0) && decide (0 < v)) = false by simp [hE], PS.out hE, ite_self]
    clear hE hv
    go_enter Try.func37, Try.ntmps37
    go_wp2_with fail
    refine HC.out.mono ?_
    rintro e z1 ⟨c, rfl, hc, hz, hk⟩
    have H1 := hid (And.intro hc hk)
    have HZ := hid hz
    clear hc hz hk a1
    go_wp2_with fail
    refine (HP.out z1 c HZ.out).mono ?_
    rintro e z2 ⟨rfl, hr⟩
    have K2 := hid (show Kp w z2 [] from H1.out.2.past hr.2 (fun k hk hl => by have := H1.out.1; simp at hk; omega))
    clear hr
    go_wp2
    go_ret2
    exact ⟨rfl, Rto.stay HM.out K2.out⟩
set_option maxRecDepth 100000 in
/-- Try. -/
theorem rstry (w : World) (rb q : Nat) (v : Int) (L : List Dl) (h : Rm 38 w rb q v L) (hv : Sok v L) : Calls Try.prog 38 #[.pointer (some ⟨rb, 0, none⟩)] w fun e w' => e = .returned (.bool (decide (0 < v))) ∧ Rto 38 w w' rb q (if 0 < v then v - 1 else v) L := by
  have HM := hid h
  have a0 := cell_two0 h.2.1
  have f0 := free_two h.2.1 0
  clear h
  by_cases h0 : 0 < v
  · rw [decide_eq_true h0, if_pos h0]
    have hz : (v == 0) = false := by simp; omega
    have hwr : IntKind.i64.wrap (v - 1) = v - 1 := IntWalk.i64_in _ ⟨by omega, by have := hv.hi; omega⟩
    clear hv
    go_enter Try.func38, Try.ntmps38
    go_wp2
    go_ret
    exact ⟨rfl, rto_of_set HM.out _⟩
  · rw [decide_eq_false h0, if_neg h0]
    have : v = 0 := by have := hv.lo; omega
    subst this
    clear hv h0
    go_enter Try.func38, Try.ntmps38
    go_wp2
    go_ret
    exact ⟨rfl, Rto.stay HM.out (Kp.refl _ _)⟩
set_option maxRecDepth 100000 in
/-- Post. -/
theorem rspost (w : World) (rb q : Nat) (v : Int) (L : List Dl) (h : Rm 38 w rb q v L) (hok : okL L) (hv : Sok v L) : Calls Try.prog 39 #[.pointer (some ⟨rb, 0, none⟩)] w fun e w' => e = .returned (.tuple #[.int .i64 (poT L), .int .i64 (poE v L)]) ∧ Rto 38 w w' rb q (poV v L) (takeL L) := by
  have HK := hid (rtake_any w q L h.2.2 hok)
  have HM := hid h
  have a1 := cell_two1 h.2.1
  have HA := hid (fun (z : World) (hr : Rt w z q (takeL L)) => And.intro (hr.2.cell (cell_two0 h.2.1) (by simp; exact h.ne)) (free_two ((hr.2.block rb h.lt.1 (by simp; exact h.ne)).trans h.2.1) 0))
  clear h hok
  unfold poT poE poV
  generalize takeL L = TL at HK HA ⊢
  cases hB : fstB L
  · simp only [Bool.false_eq_true, if_false]
    rw [hB] at HK
    clear hB
    by_cases h7 : v = 32767
    · rw [if_pos h7, if_pos h7]
      have he : (v == 32767) = true := by simp [h7]
      clear h7 hv
      go_enter Try.func39, Try.ntmps39
      go_wp2_with fail
      refine HK.out.mono ?_
      rintro e z1 ⟨rfl, hr⟩
      obtain ⟨d0, f0⟩ := HA.out z1 hr
      have HR := hid hr
      clear hr a1
      go_wp2
      go_ret2
      exact ⟨rfl, rto_of_rt HM.out HR.out⟩
    · rw [if_neg h7, if_neg h7]
      have he : (v == 32767) = false := by simp [h7]
      have hwr : IntKind.i64.wrap (v + 1) = v + 1 := IntWalk.i64_in _ ⟨by have := hv.lo; omega, by have := hv.hi; omega⟩
      clear h7 hv
      go_enter Try.func39, Try.ntmps39
      go_wp2_with fail
      refine HK.out.mono ?_
      rintro e z1 ⟨rfl, hr⟩
      obtain ⟨d0, f0⟩ := HA.out z1 hr
      have HR := hid hr
      clear hr a1
      go_wp2
      go_ret2
      refine ⟨rfl, ?_⟩
      obtain ⟨q1, m1, n1, k1⟩ := rto_of_rt HM.out HR.out
      obtain ⟨q2, m2, n2, k2⟩ := rto_of_set m1 (v + 1)
      have hq : q1 = q := by
        have h1 := m1.2.1
        have h2 := (HR.out.2.block rb HM.out.lt.1 (by simp; exact HM.out.ne)).trans HM.out.2.1
        rw [h1] at h2
        simpa using h2
      subst hq
      exact ⟨q2, m2, n2.imp id (fun h => Nat.le_trans k1.size h), k1.trans k2⟩
  · simp only [if_true]
    rw [hB] at HK
    clear hB hv
    generalize fstT L = F at HK ⊢
    go_enter Try.func39, Try.ntmps39
    go_wp2_with fail
    refine HK.out.mono ?_
    rintro e z1 ⟨rfl, hr⟩
    have HR := hid hr
    clear hr a1
    go_wp2
    go_ret2
    exact ⟨rfl, rto_of_rt HM.out HR.out⟩
set_option maxRecDepth 100000 in
set_option maxHeartbeats 1000000 in
/-- A barrier's Wait. -/
theorem rbwait (w : World) (rb q : Nat) (n : Int) (L : List Dl) (t p : Int) (h : Rm 54 w rb q n L) (hok : okL L) : Calls Try.prog 47 #[.pointer (some ⟨rb, 0, none⟩), .int .i64 t, .int .i64 p] w fun e w' => ∃ x, e = .returned (.tuple #[x, .int .i64 (putE L t p)]) ∧ Ns w' w.heap.size x (baO n L t p) ∧ Rto 54 w w' rb q n (baL n L t p) := by
  have HC := hid (rcopy_any w q L h.2.2 hok)
  have HP := hid (fun (z : World) (c : Nat) (hz : Rf z c L) => rput_any z c L t p hz hok)
  have HL := hid (fun (z : World) (hz : Rf z q L) => rclear_any z q L hz hok)
  have HM := hid h
  have a0 := cell_two0 h.2.1
  have a1 := cell_two1 h.2.1
  have HLT := hid h.lt
  have HA := hid (fun (z : World) (hk : Kp w z []) => And.intro (hk.cell a0 (by simp)) (And.intro (hk.cell a1 (by simp)) (And.intro (free_two ((hk.block rb h.lt.1 (by simp)).trans h.2.1) 0) (free_two ((hk.block rb h.lt.1 (by simp)).trans h.2.1) 1))))
  have hlen : ((ordL L).map (·.1)).length ≤ 100000 := by rw [List.length_map, ord_len hok]; have := hok.len; omega
  clear h hok a0
  have PS := hid (put_same (L := L) (t := t) (p := p))
  have PL1 := hid (show putE L t p = 0 → (putL L t p).length = L.length + 1 from fun hE => by
    unfold putE at hE
    unfold putL
    split
    · rename_i hm
      rw [if_pos hm] at hE
      split
      · rename_i hh
        rw [if_pos hh] at hE
        exact absurd hE (by decide)
      · simp
    · rename_i hm
      rw [if_neg hm] at hE
      exact absurd hE (by decide))
  unfold baO baL
  generalize putL L t p = PL at HP PS PL1 ⊢
  generalize putE L t p = E at HP PS PL1 ⊢
  generalize (ordL L).map (·.1) = OL at HL hlen ⊢
  by_cases hE : E = 0
  · subst hE
    have hPL := PL1.out rfl
    by_cases h0 : n ≤ L.length + 1
    · rw [if_pos ⟨rfl, h0⟩, if_pos ⟨rfl, h0⟩]
      go_enter Try.func47, Try.ntmps47
      go_wp2_with fail
      refine HC.out.mono ?_
      rintro e z1 ⟨c, rfl, hc, hz, hk⟩
      have H1 := hid (And.intro hc hk)
      have HZ := hid hz
      clear hc hz hk a1
      go_wp2_with fail
      refine (HP.out z1 c HZ.out).mono ?_
      rintro e z2 ⟨rfl, hr⟩
      have K2 := hid (show Kp w z2 [] from H1.out.2.past hr.2 (fun k hk hl => by have := H1.out.1; simp at hk; omega))
      obtain ⟨d0, d1, f0, f1⟩ := HA.out z2 K2.out
      obtain ⟨vv, hb2, hd2⟩ := hr.1
      obtain ⟨ao, cap, rfl⟩ := hd2.slice
      have c2 := cell_one hb2
      obtain ⟨m, hm⟩ : ∃ m, PL.length = m := ⟨_, rfl⟩
      rw [hm] at c2 hPL
      have hlt : decide ((m : Int) < n) = false := by simp; omega
      have hlt2 : ¬ (m : Int) < n := by omega
      clear hr hb2 hd2 hm hPL h0
      go_wp2_with fail
      go_quiet (fail)
      clear c2
      have hk3 := Kp.drewN z2 nq []
      have D3 := hid (HA.out _ (K2.out.trans hk3))
      have K3 := hid (K2.out.trans hk3)
      clear hk3 d0 d1 f0 f1
      have d1 := D3.out.2.1
      go_wp2_with fail
      refine (HL.out _ (HM.out.2.2.keep K3.out)).mono ?_
      rintro e z4 ⟨⟨x, rfl, hx⟩, hr⟩
      obtain ⟨ao, cap, rfl⟩ := hx.slice
      have hbig := K3.out.size
      have ka := Kp.alloc z4 (.cells #[.int .i64 t] 3) []
      have HX := hid (show Ns (z4.alloc (.cells #[.int .i64 t] 3)) w.heap.size (.slice ao OL.length cap) OL from (hx.low hbig).keep ka)
      have HB := hid (show w.heap.size ≤ (z4.alloc (.cells #[.int .i64 t] 3)).heap.size by have := hr.2.size; simp; omega)
      have HR := hid (rto_of_rt (HM.out.same K3.out) hr)
      have HK4 := hid ka
      clear hx hr ka hbig
      obtain ⟨on, hon⟩ : ∃ on, OL.length = on := ⟨_, rfl⟩
      rw [hon] at HX hlen ⊢
      have HON := hid hon
      have hon2 : OL.length ≤ 100000 := by omega
      clear hon
      go_wp2_with (refine wpList_pushI rfl (.tmp 42) (.tmp 44) rfl w.heap.size (.slice ao on cap) OL t _ rfl HX.out rfl (by simp) hon2 HB.out ?_; intro v3 w3 hN3 hG3; have K5 := hid (Kp.ofGrown (rows := (Value.slice ao on cap).ownBlock.toList) hG3 (by intro g hg; have hg' : (Value.slice ao on cap).ownBlock = some g := hg; simp [hg'])); have N5 := hid hN3; clear hN3 hG3)
      go_ret2
      refine ⟨v3, rfl, N5.out, ?_⟩
      obtain ⟨q', m1, n1, k1⟩ := HR.out
      have hfar : ∀ k ∈ (Value.slice ao on cap).ownBlock.toList, w.heap.size ≤ k ∧ ∃ cur, (z4.alloc (.cells #[.int .i64 t] 3)).heap[k]? = some (.cells cur 3 (0, 0)) := fun k hm => by
        simp only [Option.mem_toList] at hm
        exact owns_block HX.out hm
      have m2 := m1.same HK4.out
      refine ⟨q', m2.keep K5.out (fun hm => ?_) (fun hm => ?_) (fun k hm c hc => ?_), n1.imp id (fun h => Nat.le_trans K3.out.size h), (((K3.out.nil).trans k1).trans HK4.out.nil).past K5.out (fun k hm hl => by have := (hfar k hm).1; omega)⟩
      · have := (hfar _ hm).1; have := HLT.out; omega
      · obtain ⟨-, cur, hc⟩ := hfar _ hm
        obtain ⟨d, hd⟩ := m2.2.2.has41
        rw [hc] at hd
        simp at hd
      · obtain ⟨-, cur, hc2⟩ := hfar _ hm
        rw [hc2] at hc
        simp at hc
    · rw [if_neg (fun h => h0 h.2), if_neg (fun h => h0 h.2)]
      go_enter Try.func47, Try.ntmps47
      go_wp2_with fail
      refine HC.out.mono ?_
      rintro e z1 ⟨c, rfl, hc, hz, hk⟩
      have H1 := hid (And.intro hc hk)
      have HZ := hid hz
      clear hc hz hk a1
      go_wp2_with fail
      refine (HP.out z1 c HZ.out).mono ?_
      rintro e z2 ⟨rfl, hr⟩
      have HR := hid hr
      have K2 := hid (show Kp w z2 [] from H1.out.2.past hr.2 (fun k hk hl => by have := H1.out.1; simp at hk; omega))
      obtain ⟨d0, d1, f0, f1⟩ := HA.out z2 K2.out
      obtain ⟨vv, hb2, hd2⟩ := hr.1
      obtain ⟨ao, cap, rfl⟩ := hd2.slice
      have c2 := cell_one hb2
      obtain ⟨m, hm⟩ : ∃ m, PL.length = m := ⟨_, rfl⟩
      rw [hm] at c2 hPL
      have hlt : decide ((m : Int) < n) = true := by simp; omega
      have hlt2 : (m : Int) < n := by omega
      clear hr hb2 hd2 hm hPL h0
      go_wp2_with fail
      go_quiet (fail)
      clear c2
      have hk3 := Kp.drewN z2 nq []
      have D3 := hid (HA.out _ (K2.out.trans hk3))
      have K3 := hid (K2.out.trans hk3)
      have HR3 := hid (HR.out.1.keep hk3)
      clear hk3 d0 d1 f0 f1
      have f1 := D3.out.2.2.2
      have d1 := D3.out.2.1
      go_wp2
      go_ret2
      obtain ⟨m, k⟩ := rto_of_ptr (HM.out.same K3.out) HR3.out (by have := HLT.out; have := H1.out.1; omega)
      exact ⟨_, rfl, Ns.nil _ _, c, m, .inr H1.out.1, K3.out.nil.trans (k.mono (fun k hk _ => by simp at hk; simp [hk]))⟩
  · have he : (E != 0) = true := by simp [hE]
    rw [if_neg (fun h => hE h.1), if_neg (fun h => hE h.1), PS.out hE]
    clear hE
    go_enter Try.func47, Try.ntmps47
    go_wp2_with fail
    refine HC.out.mono ?_
    rintro e z1 ⟨c, rfl, hc, hz, hk⟩
    have H1 := hid (And.intro hc hk)
    have HZ := hid hz
    clear hc hz hk a1
    go_wp2_with fail
    refine (HP.out z1 c HZ.out).mono ?_
    rintro e z2 ⟨rfl, hr⟩
    have K2 := hid (show Kp w z2 [] from H1.out.2.past hr.2 (fun k hk hl => by have := H1.out.1; simp at hk; omega))
    clear hr
    go_wp2
    go_ret2
    exact ⟨_, rfl, Ns.nil _ _, Rto.stay HM.out K2.out⟩
end Go.Proofs.Ytpkaeanagdhmiaa
