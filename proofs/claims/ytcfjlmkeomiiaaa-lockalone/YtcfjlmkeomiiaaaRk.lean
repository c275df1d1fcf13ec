/- The reference's lock in memory; New, Held, mayRead, ask. -/
import Derived.Test.YtcfjlmkeomiiaaaLk
import Derived.BigQuiet
namespace Go.Proofs.Ytcfjlmkeomiiaaa
open Go.RowKit Go.Shelf Go.Lib Go.Sort Go.Maps
attribute [local go_sem] Oper.semAt_some

def vcl (F : Nat → Value) : Nat → Nat → List Value
  | 0, _ => []
  | k + 1, i => F i :: vcl F k (i + 1)
theorem vcl_length (F : Nat → Value) (k i : Nat) : (vcl F k i).length = k := by
  induction k generalizing i with
  | zero => rfl
  | succ k ih => simp [vcl, ih]
theorem vcl_at (F : Nat → Value) (k i j : Nat) (hj : j < k) : (vcl F k i)[j]? = some (F (i + j)) := by
  induction k generalizing i j with
  | zero => omega
  | succ k ih =>
    cases j with
    | zero => simp [vcl]
    | succ j =>
      simp only [vcl, List.getElem?_cons_succ]
      rw [ih (i + 1) j (by omega), show i + (j + 1) = i + 1 + j by omega]
def updV (F : Nat → Value) (i : Nat) (v : Value) : Nat → Value := fun j => if j = i then v else F j
theorem vcl_set (F : Nat → Value) (k j : Nat) (v : Value) (hj : j < k) : (vcl F k 0).set j v = vcl (updV F j v) k 0 := by
  apply List.ext_getElem?
  intro n
  rw [List.getElem?_set]
  rcases Nat.lt_or_ge n k with hn | hn
  · rw [vcl_at _ k 0 n hn, Nat.zero_add]
    by_cases e : j = n
    · subst e
      rw [if_pos rfl, if_pos (by rw [vcl_length]; exact hj)]
      rw [vcl_at _ k 0 j hj, Nat.zero_add]
      simp [updV]
    · rw [if_neg e, vcl_at _ k 0 n hn, Nat.zero_add]
      have : n ≠ j := fun h => e h.symm
      simp [updV, this]
  · rw [List.getElem?_eq_none (by rw [vcl_length]; exact hn)]
    by_cases e : j = n
    · omega
    · rw [if_neg e, List.getElem?_eq_none (by rw [vcl_length]; exact hn)]
theorem vcl_congr {F G : Nat → Value} (k i : Nat) (h : ∀ j, j < k → F (i + j) = G (i + j)) : vcl F k i = vcl G k i := by
  induction k generalizing i with
  | zero => rfl
  | succ k ih =>
    have h0 := h 0 (by omega)
    simp only [Nat.add_zero] at h0
    simp only [vcl, h0]
    rw [ih (i + 1) (fun j hj => by have := h (j + 1) (by omega); rwa [show i + (j + 1) = i + 1 + j by omega] at this)]
theorem vcl_put {F G : Nat → Value} {k j : Nat} {v : Value} (hj : j < k) (h : ∀ i, i < k → G i = if i = j then v else F i) : (vcl F k 0).set j v = vcl G k 0 := by
  rw [vcl_set F k j v hj]
  refine vcl_congr k 0 fun i hi => ?_
  rw [Nat.zero_add, h i hi]
  rfl
theorem vcl_cell {w : World} {b k t : Nat} {F : Nat → Value} (h : w.heap[b]? = some (.cells (vcl F k 0).toArray t (0, 0))) (i : Nat) (hi : i < k) : w.cell? ⟨b, i, none⟩ = some (F i) := by
  rw [cell_of_row w b i _ _ _ h]
  have := vcl_at F k 0 i hi
  rw [Nat.zero_add] at this
  simpa using this
theorem vcl_heap {w : World} {b k t j : Nat} {F G : Nat → Value} {v : Value} (h : w.heap[b]? = some (.cells (vcl F k 0).toArray t (0, 0))) (hj : j < k) (hg : ∀ i, i < k → G i = if i = j then v else F i) : (w.setCell ⟨b, j, none⟩ v).heap[b]? = some (.cells (vcl G k 0).toArray t (0, 0)) := by
  rw [heap_setCell_same w b j _ t _ h, List.setIfInBounds_toArray, vcl_put hj hg]

/-- Its cells. -/
def lF (M : Lk) (a b : Nat) : Nat → Value := fun i => if i = 0 then .int .i64 M.w else if i < 17 then .int .i64 (M.c (i - 1)) else if i = 17 then .pointer (some ⟨a, 0, none⟩) else .pointer (some ⟨b, 0, none⟩)
/-- The reference's lock at block lb, those who wait to read at a, to write at b. -/
structure Rk (w : World) (lb a b : Nat) (M : Lk) : Prop where
  hh : w.heap[lb]? = some (.cells (vcl (lF M a b) 19 0).toArray 64 (0, 0))
  rr : Rf w a M.r
  rq : Rf w b M.q
  ne : a ≠ b
variable {w w' : World} {lb a b : Nat} {M : Lk}
theorem Rf.has {w : World} {q : Nat} {L : List Dl} (h : Rf w q L) : ∃ c, w.heap[q]? = some (.cells c 62 (0, 0)) := by
  obtain ⟨v, hb, -⟩ := h
  exact ⟨_, hb⟩
theorem Rf.stay {w w' : World} {q : Nat} {L : List Dl} (h : Rf w q L) {rs : List Nat} (hk : Kp w w' rs) (hq : q ∉ rs) (hr : ∀ k ∈ rs, ∀ c, w.heap[k]? ≠ some (.cells c 96 (0, 0))) : Rf w' q L := by
  obtain ⟨v, hb, hd⟩ := h
  refine ⟨v, (hk.block q (lt_of_block hb) hq).trans hb, hd.kp hk fun g hg hm => ?_⟩
  obtain ⟨-, cur, hc⟩ := owns_block hd hg
  exact hr g hm _ hc
theorem Rk.lt (h : Rk w lb a b M) : lb < w.heap.size ∧ a < w.heap.size ∧ b < w.heap.size := ⟨lt_of_block h.hh, h.rr.lt, h.rq.lt⟩
theorem Rk.off (h : Rk w lb a b M) : lb ≠ a ∧ lb ≠ b := by
  obtain ⟨c, hc⟩ := h.rr.has
  obtain ⟨d, hd⟩ := h.rq.has
  exact ⟨block_ne h.hh hc (by decide), block_ne h.hh hd (by decide)⟩
theorem Rk.kind (h : Rk w lb a b M) : ∀ k ∈ [lb, a, b], ∀ c, w.heap[k]? ≠ some (.cells c 96 (0, 0)) := by
  intro k hk c
  obtain ⟨d, hd⟩ := h.rr.has
  obtain ⟨e, he⟩ := h.rq.has
  have hb := h.hh
  simp only [List.mem_cons, List.not_mem_nil, or_false] at hk
  rcases hk with rfl | rfl | rfl
  · rw [hb]; simp
  · rw [hd]; simp
  · rw [he]; simp
theorem Rk.keep (h : Rk w lb a b M) {rs : List Nat} (hk : Kp w w' rs) (hr : ∀ k ∈ [lb, a, b], k ∉ rs) (hd : ∀ k ∈ rs, ∀ c, w.heap[k]? ≠ some (.cells c 96 (0, 0))) : Rk w' lb a b M :=
  ⟨(hk.block lb h.lt.1 (hr _ (by simp))).trans h.hh, h.rr.stay hk (hr _ (by simp)) hd, h.rq.stay hk (hr _ (by simp)) hd, h.ne⟩
theorem Rk.same (h : Rk w lb a b M) (hk : Kp w w' []) : Rk w' lb a b M := h.keep hk (by simp) (by simp)
theorem Rk.cw (h : Rk w lb a b M) : w.cell? ⟨lb, 0, none⟩ = some (.int .i64 M.w) := vcl_cell h.hh 0 (by decide)
theorem Rk.cc (h : Rk w lb a b M) {t : Nat} (ht : t < 16) : w.cell? ⟨lb, 1 + t, none⟩ = some (.int .i64 (M.c t)) := by
  rw [vcl_cell h.hh (1 + t) (by omega)]
  unfold lF
  rw [if_neg (by omega), if_pos (by omega), show 1 + t - 1 = t by omega]
theorem Rk.cr (h : Rk w lb a b M) : w.cell? ⟨lb, 17, none⟩ = some (.pointer (some ⟨a, 0, none⟩)) := vcl_cell h.hh 17 (by decide)
theorem Rk.cq (h : Rk w lb a b M) : w.cell? ⟨lb, 18, none⟩ = some (.pointer (some ⟨b, 0, none⟩)) := vcl_cell h.hh 18 (by decide)
theorem Rk.free (h : Rk w lb a b M) (i : Nat) : w.frozen? ⟨lb, i, none⟩ = false := by simp [World.frozen?, h.hh]
/-- What a call leaves of it. -/
def Rkt (w w' : World) (lb a b : Nat) (M : Lk) : Prop := Rk w' lb a b M ∧ Kp w w' [lb, a, b]
theorem Rkt.stay (h : Rk w lb a b M) (hk : Kp w w' []) : Rkt w w' lb a b M := ⟨h.same hk, hk.nil⟩
theorem Rkt.trans {w1 w2 : World} {M1 M2 : Lk} (h : Rkt w w1 lb a b M1) (h' : Rkt w1 w2 lb a b M2) : Rkt w w2 lb a b M2 := ⟨h'.1, h.2.trans h'.2⟩
theorem Rk.setW (h : Rk w lb a b M) (x : Int) : Rkt w (w.setCell ⟨lb, 0, none⟩ (.int .i64 x)) lb a b { M with w := x } := by
  have hk := Kp.setCell w ⟨lb, 0, none⟩ (.int .i64 x)
  have kd := h.kind
  have hd : ∀ k ∈ [lb], ∀ c, w.heap[k]? ≠ some (.cells c 96 (0, 0)) := fun k hm c => kd k (by simp at hm; simp [hm]) c
  refine ⟨⟨vcl_heap h.hh (by decide) (fun i hi => ?_), h.rr.stay hk (by simp; exact fun e => h.off.1 e.symm) hd, h.rq.stay hk (by simp; exact fun e => h.off.2 e.symm) hd, h.ne⟩, hk.mono (fun k hm _ => by simp at hm; simp [hm])⟩
  unfold lF
  by_cases e : i = 0
  · simp [e]
  · simp [e]
theorem Rk.setC (h : Rk w lb a b M) {t : Int} (h0 : 0 ≤ t) (h1 : t < 16) (x : Int) : Rkt w (w.setCell ⟨lb, 1 + t.toNat, none⟩ (.int .i64 x)) lb a b { M with c := updC M.c t x } := by
  have hk := Kp.setCell w ⟨lb, 1 + t.toNat, none⟩ (.int .i64 x)
  have kd := h.kind
  have hd : ∀ k ∈ [lb], ∀ c, w.heap[k]? ≠ some (.cells c 96 (0, 0)) := fun k hm c => kd k (by simp at hm; simp [hm]) c
  refine ⟨⟨vcl_heap h.hh (by omega) (fun i hi => ?_), h.rr.stay hk (by simp; exact fun e => h.off.1 e.symm) hd, h.rq.stay hk (by simp; exact fun e => h.off.2 e.symm) hd, h.ne⟩, hk.mono (fun k hm _ => by simp at hm; simp [hm])⟩
  unfold lF updC
  simp only
  by_cases e : i = 1 + t.toNat
  · subst e
    rw [if_neg (by omega), if_pos (by omega), if_pos (by omega), if_pos rfl]
  · rw [if_neg e]
    by_cases e0 : i = 0
    · rw [if_pos e0, if_pos e0]
    · rw [if_neg e0, if_neg e0]
      by_cases e1 : i < 17
      · rw [if_pos e1, if_pos e1, if_neg (by omega)]
      · rw [if_neg e1, if_neg e1]
theorem Rk.setR {R : List Dl} (h : Rk w lb a b M) (hr : Rt w w' a R) : Rkt w w' lb a b { M with r := R } := by
  have kd := h.kind
  have hd : ∀ k ∈ [a], ∀ c, w.heap[k]? ≠ some (.cells c 96 (0, 0)) := fun k hm c => kd k (by simp at hm; simp [hm]) c
  exact ⟨⟨(hr.2.block lb h.lt.1 (by simp; exact h.off.1)).trans h.hh, hr.1, h.rq.stay hr.2 (by simp; exact fun e => h.ne e.symm) hd, h.ne⟩, hr.2.mono (fun k hm _ => by simp at hm; simp [hm])⟩
theorem Rk.setQ {Q : List Dl} (h : Rk w lb a b M) (hr : Rt w w' b Q) : Rkt w w' lb a b { M with q := Q } := by
  have kd := h.kind
  have hd : ∀ k ∈ [b], ∀ c, w.heap[k]? ≠ some (.cells c 96 (0, 0)) := fun k hm c => kd k (by simp at hm; simp [hm]) c
  exact ⟨⟨(hr.2.block lb h.lt.1 (by simp; exact h.off.2)).trans h.hh, h.rr.stay hr.2 (by simp; exact h.ne) hd, hr.1, h.ne⟩, hr.2.mono (fun k hm _ => by simp at hm; simp [hm])⟩
set_option maxRecDepth 100000 in
set_option maxHeartbeats 1000000 in
theorem rheld (w : World) (lb a b : Nat) (M : Lk) (h : Rk w lb a b M) : Calls Try.prog 35 #[.pointer (some ⟨lb, 0, none⟩)] w fun e w' => e = .returned (.bool (heldL M)) ∧ w' = w := by
  have cw := h.cw
  have HC := hid (fun t (ht : t < 16) => h.cc (t := t) ht)
  have HE := hid (show ∀ t, t = 16 → (decide (0 ≤ M.w) || anyC M.c t) = heldL M from fun t ht => by rw [ht]; rfl)
  generalize heldL M = H at HE ⊢
  clear h
  go_enter Try.func35, Try.ntmps35
  go_wp2_with fail
  go_loopw [3, 4] (fun vh vt wr => ∃ (t : Nat) (B : Bool), t ≤ 16 ∧ vt = .int .i64 t ∧ vh = .bool B ∧ Hid (wr = w ∧ B = (decide (0 ≤ M.w) || anyC M.c t))) (fun _ vt _ => 16 - (intOf vt).toNat)
  case atStart => exact ⟨0, _, by omega, rfl, rfl, hid ⟨rfl, by simp [anyC]⟩⟩
  case round =>
    obtain ⟨t, B, ht, rfl, rfl, hB⟩ := hrel
    have hWE := hB.out.1.symm
    subst hWE
    by_cases hlt : t < 16
    · have hltI : (t : Int) < 16 := by omega
      have h0I : (0 : Int) ≤ t := by omega
      have c1 := HC.out t hlt
      have HN := hid (show ∀ C : Bool, C = decide (0 < M.c t) → (B || C) = (decide (0 ≤ M.w) || anyC M.c (t + 1)) from fun C hC => by
        rw [hC, hB.out.2, anyC_succ, Bool.or_assoc])
      cases B with
      | false =>
        clear hB
        go_wp2
        go_roundw
        case rel => exact ⟨t + 1, _, by omega, by simp, rfl, hid ⟨by trivial, by have := HN.out _ rfl; simpa using this⟩⟩
        case measure => simp [intOf]; omega
      | true =>
        clear hB
        go_wp2
        go_roundw
        case rel => exact ⟨t + 1, _, by omega, by simp, rfl, hid ⟨by trivial, by have := HN.out _ rfl; simpa using this⟩⟩
        case measure => simp [intOf]; omega
    · have hltI : ¬ (t : Int) < 16 := by omega
      have hF : B = H := hB.out.2.trans (HE.out t (by omega))
      clear hB
      subst hF
      go_wp2
      go_ret
      exact ⟨rfl, rfl⟩
theorem int_nat {t : Int} (h : 0 ≤ t) : ∃ n : Nat, t = n := ⟨t.toNat, by omega⟩
set_option maxRecDepth 100000 in
set_option maxHeartbeats 1000000 in
theorem rmayR (w : World) (lb a b : Nat) (M : Lk) (t p : Int) (h : Rk w lb a b M) (hok : okL M.q) (h0 : 0 ≤ t) (h1 : t < 16) : Calls Try.prog 62 #[.pointer (some ⟨lb, 0, none⟩), .int .i64 t, .int .i64 p] w fun e w' => e = .returned (.bool (mayR M t p)) ∧ Kp w w' [] := by
  obtain ⟨n, rfl⟩ := int_nat h0
  have hn : n < 16 := by omega
  have cw := h.cw
  have cq := h.cq
  have HC := hid (fun (z : World) (hk : Kp w z []) => hk.cell (h.cc hn) (by simp))
  have HO := hid (rorder_any w b M.q h.rq hok)
  have hZl : (ordL M.q).length ≤ 16 := by rw [ord_len hok]; exact hok.len
  unfold mayR
  have e1 : fstB M.q = !(ordL M.q).isEmpty := rfl
  have e2 : fstP M.q = ((ordL M.q).headD (0, 0)).2 := rfl
  rw [e1, e2, Int.toNat_natCast]
  clear e1 e2 h hok h0
  generalize ordL M.q = Z at HO hZl ⊢
  generalize M.c n = C at HC ⊢
  generalize M.w = X at cw ⊢
  by_cases hw : 0 ≤ X
  · have hw2 : decide (X < 0) = false := by simp; omega
    rw [hw2, Bool.false_and]
    clear hw2
    go_enter Try.func62, Try.ntmps62
    go_wp2
    go_ret
    exact ⟨rfl, Kp.refl _ _⟩
  · have hw2 : decide (X < 0) = true := by simp; omega
    rw [hw2, Bool.true_and]
    clear hw2
    by_cases hC : 0 < C
    · rw [decide_eq_true hC, Bool.true_or, Bool.true_or]
      go_enter Try.func62, Try.ntmps62
      go_wp2_with fail
      refine HO.out.mono ?_
      rintro e w1 ⟨v, rfl, hd, hk⟩
      obtain ⟨ao, cap, rfl⟩ := hd.slice
      have c1 := HC.out w1 hk
      have HK := hid hk
      clear hd hk
      go_wp2
      go_ret
      exact ⟨rfl, HK.out⟩
    · have hCd : decide (0 < C) = false := decide_eq_false hC
      rw [hCd, Bool.false_or]
      cases Z with
      | nil =>
        go_enter Try.func62, Try.ntmps62
        go_wp2_with fail
        refine HO.out.mono ?_
        rintro e w1 ⟨v, rfl, hd, hk⟩
        obtain ⟨ao, cap, rfl⟩ := hd.slice
        have c1 := HC.out w1 hk
        have HK := hid hk
        clear hd hk
        go_wp2
        go_ret
        exact ⟨rfl, HK.out⟩
      | cons z r =>
        obtain ⟨z1, z2⟩ := z
        have e3 : (!(List.isEmpty ((z1, z2) :: r)) : Bool) = true := rfl
        rw [show (!!(List.isEmpty ((z1, z2) :: r))) = false from rfl, Bool.false_or]
        simp only [List.headD_cons]
        clear e3
        go_enter Try.func62, Try.ntmps62
        go_wp2_with fail
        refine HO.out.mono ?_
        rintro e w1 ⟨v, rfl, hd, hk⟩
        obtain ⟨ao, cap, rfl⟩ := hd.slice
        obtain ⟨g, rfl, g1, g2, -, -⟩ := hd.at (k := 0) (by simp) (x1 := z1) (x2 := z2) rfl
        have hl1 : ((((z1, z2) :: r).length : Nat) : Int) ≠ 0 := by rw [List.length_cons]; omega
        have hl2 : (0 : Int) < ((((z1, z2) :: r).length : Nat) : Int) := by rw [List.length_cons]; omega
        generalize ((z1, z2) :: r).length = m at hl1 hl2 hd ⊢
        have hl3 : ((m : Int) == 0) = false := by simp; omega
        have c1 := HC.out w1 hk
        have HK := hid hk
        clear hd hk
        go_wp2
        go_ret
        exact ⟨by first | rfl | simp [hCd] | simp, HK.out⟩
end Go.Proofs.Ytcfjlmkeomiiaaa
