/- The program's graph in memory; what may be. -/
import Derived.Test.YtomdnppnabncaaaPrg
namespace Go.Proofs.Ytomdnppnabncaaa
open Go.RowKit Go.Shelf
open Go.Lib hiding intOf

/-- A graph's cells: how many; of each thread its base, its ceiling, for whom it waits. -/
def pV (n : Nat) (b c o : Nat → Int) : Nat → Value := fun i => if i = 0 then .int .i64 (n : Nat) else if (i - 1) % 3 = 0 then .int .i64 (b ((i - 1) / 3)) else if (i - 1) % 3 = 1 then .int .i64 (c ((i - 1) / 3)) else .int .i64 (o ((i - 1) / 3))
def Gc (w : World) (gb n : Nat) (b c o : Nat → Int) : Prop := w.heap[gb]? = some (.cells (vcl (pV n b c o) 49 0).toArray 54 (0, 0))
section
variable {w w' : World} {gb n : Nat} {b c o : Nat → Int}
theorem Gc.lt (h : Gc w gb n b c o) : gb < w.heap.size := lt_of_block h
theorem Gc.keep {rows : List Nat} (h : Gc w gb n b c o) (hk : Kp w w' rows) (hr : gb ∉ rows) : Gc w' gb n b c o := (hk.block gb (lt_of_block h) hr).trans h
theorem Gc.free (h : Gc w gb n b c o) (i : Nat) : w.frozen? ⟨gb, i, none⟩ = false := by unfold Gc at h; simp [World.frozen?, h]
theorem Gc.cnt (h : Gc w gb n b c o) : w.cell? ⟨gb, 0, none⟩ = some (.int .i64 (n : Nat)) := vcl_cell h 0 (by omega)
theorem pV_b (n : Nat) (b c o : Nat → Int) (t : Nat) : pV n b c o (1 + t * 3) = .int .i64 (b t) := by
  unfold pV
  rw [if_neg (by omega), if_pos (by omega), show (1 + t * 3 - 1) / 3 = t by omega]
theorem pV_c (n : Nat) (b c o : Nat → Int) (t : Nat) : pV n b c o (1 + t * 3 + 1) = .int .i64 (c t) := by
  unfold pV
  rw [if_neg (by omega), if_neg (by omega), if_pos (by omega), show (1 + t * 3 + 1 - 1) / 3 = t by omega]
theorem pV_o (n : Nat) (b c o : Nat → Int) (t : Nat) : pV n b c o (1 + t * 3 + 2) = .int .i64 (o t) := by
  unfold pV
  rw [if_neg (by omega), if_neg (by omega), if_neg (by omega), show (1 + t * 3 + 2 - 1) / 3 = t by omega]
theorem Gc.bs (h : Gc w gb n b c o) {t : Nat} (ht : t < 16) : w.cell? ⟨gb, 1 + t * 3, none⟩ = some (.int .i64 (b t)) := by rw [vcl_cell h _ (by omega), pV_b]
theorem Gc.cs (h : Gc w gb n b c o) {t : Nat} (ht : t < 16) : w.cell? ⟨gb, 1 + t * 3 + 1, none⟩ = some (.int .i64 (c t)) := by rw [vcl_cell h _ (by omega), pV_c]
theorem Gc.os (h : Gc w gb n b c o) {t : Nat} (ht : t < 16) : w.cell? ⟨gb, 1 + t * 3 + 2, none⟩ = some (.int .i64 (o t)) := by rw [vcl_cell h _ (by omega), pV_o]
theorem Gc.setB (h : Gc w gb n b c o) {t : Nat} (ht : t < 16) (x : Int) : Gc (w.setCell ⟨gb, 1 + t * 3, none⟩ (.int .i64 x)) gb n (upd b t x) c o := by
  refine vcl_heap h (by omega) fun i hi => ?_
  by_cases e : i = 1 + t * 3
  · rw [if_pos e, e, pV_b, upd_same]
  · rw [if_neg e]
    unfold pV
    by_cases e0 : i = 0
    · simp [e0]
    rw [if_neg e0, if_neg e0]
    by_cases e1 : (i - 1) % 3 = 0
    · rw [if_pos e1, if_pos e1, upd_ne _ _ (by omega)]
    · rw [if_neg e1, if_neg e1]
theorem Gc.setC (h : Gc w gb n b c o) {t : Nat} (ht : t < 16) (x : Int) : Gc (w.setCell ⟨gb, 1 + t * 3 + 1, none⟩ (.int .i64 x)) gb n b (upd c t x) o := by
  refine vcl_heap h (by omega) fun i hi => ?_
  by_cases e : i = 1 + t * 3 + 1
  · rw [if_pos e, e, pV_c, upd_same]
  · rw [if_neg e]
    unfold pV
    by_cases e0 : i = 0
    · simp [e0]
    rw [if_neg e0, if_neg e0]
    by_cases e1 : (i - 1) % 3 = 0
    · rw [if_pos e1, if_pos e1]
    rw [if_neg e1, if_neg e1]
    by_cases e2 : (i - 1) % 3 = 1
    · rw [if_pos e2, if_pos e2, upd_ne _ _ (by omega)]
    · rw [if_neg e2, if_neg e2]
theorem Gc.setO (h : Gc w gb n b c o) {t : Nat} (ht : t < 16) (x : Int) : Gc (w.setCell ⟨gb, 1 + t * 3 + 2, none⟩ (.int .i64 x)) gb n b c (upd o t x) := by
  refine vcl_heap h (by omega) fun i hi => ?_
  by_cases e : i = 1 + t * 3 + 2
  · rw [if_pos e, e, pV_o, upd_same]
  · rw [if_neg e]
    unfold pV
    by_cases e0 : i = 0
    · simp [e0]
    rw [if_neg e0, if_neg e0]
    by_cases e1 : (i - 1) % 3 = 0
    · rw [if_pos e1, if_pos e1]
    rw [if_neg e1, if_neg e1]
    by_cases e2 : (i - 1) % 3 = 1
    · rw [if_pos e2, if_pos e2]
    · rw [if_neg e2, if_neg e2, upd_ne _ _ (by omega)]
end
theorem Gc.congr {w : World} {gb n : Nat} {b c o b' c' o' : Nat → Int} (h : Gc w gb n b c o) (e : ∀ t, t < 16 → b t = b' t ∧ c t = c' t ∧ o t = o' t) : Gc w gb n b' c' o' := by
  unfold Gc at h ⊢
  rw [h]
  congr 3
  apply vcl_congr
  intro j hj
  rw [Nat.zero_add]
  unfold pV
  by_cases e0 : j = 0
  · rw [if_pos e0, if_pos e0]
  obtain ⟨q1, q2, q3⟩ := e ((j - 1) / 3) (by omega)
  rw [q1, q2, q3]
/-- For whom threads wait as it stands in memory: of those that are none, 0. -/
def ow (G : Gs) : Nat → Int := fun t => if t < G.n then G.w t else 0
/-- The program's graph. -/
structure Gr0 (w : World) (gb : Nat) (G : Gs) : Prop where
  c : Gc w gb G.n G.b G.c (ow G)
  ok : Gok G
  out : ∀ t, G.n ≤ t → t < 16 → G.b t = 0 ∧ G.c t = 0 ∧ G.w t = -1
section
variable {w w' : World} {gb : Nat} {G : Gs}
theorem Gr0.keep {rows : List Nat} (h : Gr0 w gb G) (hk : Kp w w' rows) (hr : gb ∉ rows) : Gr0 w' gb G := ⟨h.c.keep hk hr, h.ok, h.out⟩
theorem Gr0.still (h : Gr0 w gb G) (hk : Kp w w' []) : Gr0 w' gb G := h.keep hk (by simp)
theorem Gr0.wt (h : Gr0 w gb G) {t : Nat} (ht : t < G.n) : w.cell? ⟨gb, 1 + t * 3 + 2, none⟩ = some (.int .i64 (G.w t)) := by
  rw [h.c.os (t := t) (by have := h.ok.n2; omega)]
  unfold ow
  rw [if_pos ht]
theorem Gr0.n16 (h : Gr0 w gb G) {t : Nat} (ht : t < G.n) : t < 16 := by have := h.ok.n2; omega
end
/-- No graph: nil, or a zero one. -/
def Zg0 (w : World) (p : Option Addr) : Prop := p = none ∨ ∃ zb c, p = some ⟨zb, 0, none⟩ ∧ w.heap[zb]? = some (.cells c 54 (0, 0)) ∧ c[0]? = some (.int .i64 0)
theorem Zg0.keep {w w' : World} {p : Option Addr} (h : Zg0 w p) (hk : Kp w w' []) : Zg0 w' p := by
  rcases h with h | ⟨zb, c, h1, h2, h3⟩
  · exact .inl h
  · exact .inr ⟨zb, c, h1, (hk.block zb (lt_of_block h2) (by simp)).trans h2, h3⟩
set_option maxRecDepth 100000 in
theorem zero_no (w : World) (gb : Nat) (G : Gs) (h : Gr0 w gb G) : Calls Try.prog 26 #[.pointer (some ⟨gb, 0, none⟩)] w fun e w' => e = .returned (.bool false) ∧ w' = w := by
  have c0 := h.c.cnt
  obtain ⟨n, hn⟩ : ∃ n, G.n = n := ⟨_, rfl⟩
  have h1 := h.ok.n1
  rw [hn] at c0 h1
  have hq : ((n : Int) == 0) = false := by simp; omega
  clear h hn
  go_enter Try.func26, Try.ntmps26
  go_wp2_with fail
  go_ret
  exact ⟨rfl, rfl⟩
set_option maxRecDepth 100000 in
theorem zero_yes (w : World) (p : Option Addr) (h : Zg0 w p) : Calls Try.prog 26 #[.pointer p] w fun e w' => e = .returned (.bool true) ∧ w' = w := by
  rcases h with rfl | ⟨zb, c, rfl, h2, h3⟩
  · go_enter Try.func26, Try.ntmps26
    go_wp2_with fail
    go_ret
    exact ⟨rfl, rfl⟩
  · have c0 : w.cell? ⟨zb, 0, none⟩ = some (.int .i64 0) := by simp [World.cell?, h2, h3]
    clear h2 h3
    go_enter Try.func26, Try.ntmps26
    go_wp2_with fail
    go_ret
    exact ⟨rfl, rfl⟩
set_option maxRecDepth 100000 in
theorem may_any (w : World) (gb : Nat) (G : Gs) (t : Int) (h : Gr0 w gb G) : Calls Try.prog 29 #[.pointer (some ⟨gb, 0, none⟩), .int .i64 t] w fun e w' => e = .returned (.bool (decide (mayT G t))) ∧ w' = w := by
  have c0 := h.c.cnt
  have H := hid h
  obtain ⟨B, hB⟩ : ∃ B, decide (mayT G t) = B := ⟨_, rfl⟩
  rw [hB]
  have HB := hid hB
  clear h hB
  by_cases h0 : 0 ≤ t
  · by_cases h1 : t < G.n
    · have e : B = true := by rw [← HB.out]; simp [mayT, h0, h1]
      subst e
      go_enter Try.func29, Try.ntmps29
      go_wp2_with (go_at_call 26; refine (zero_no w gb G H.out).mono ?_; rintro e w1 ⟨rfl, rfl⟩)
      go_ret
      exact ⟨rfl, rfl⟩
    · have e : B = false := by rw [← HB.out]; simp [mayT, h1]
      have hd : decide (t < (G.n : Int)) = false := by simp; omega
      subst e
      go_enter Try.func29, Try.ntmps29
      go_wp2_with (go_at_call 26; refine (zero_no w gb G H.out).mono ?_; rintro e w1 ⟨rfl, rfl⟩)
      go_ret
      exact ⟨rfl, rfl⟩
  · have e : B = false := by rw [← HB.out]; simp [mayT, h0]
    have hd : decide (0 ≤ t) = false := by simp; omega
    subst e
    go_enter Try.func29, Try.ntmps29
    go_wp2_with (go_at_call 26; refine (zero_no w gb G H.out).mono ?_; rintro e w1 ⟨rfl, rfl⟩)
    go_ret
    exact ⟨rfl, rfl⟩
set_option maxRecDepth 100000 in
theorem may_zero (w : World) (p : Option Addr) (t : Int) (h : Zg0 w p) : Calls Try.prog 29 #[.pointer p, .int .i64 t] w fun e w' => e = .returned (.bool false) ∧ w' = w := by
  have H := hid h
  clear h
  go_enter Try.func29, Try.ntmps29
  go_wp2_with (go_at_call 26; refine (zero_yes w p H.out).mono ?_; rintro e w1 ⟨rfl, rfl⟩)
  go_ret
  exact ⟨rfl, rfl⟩
set_option maxRecDepth 100000 in
theorem prio_any (w : World) (x : Int) : Calls Try.prog 31 #[.int .i64 x] w fun e w' => e = .returned (.bool (decide (mayP x))) ∧ w' = w := by
  obtain ⟨B, hB⟩ : ∃ B, decide (mayP x) = B := ⟨_, rfl⟩
  rw [hB]
  have HB := hid hB
  clear hB
  by_cases h0 : 0 ≤ x
  · by_cases h1 : x ≤ 31
    · have e : B = true := by rw [← HB.out]; simp [mayP, h0, h1]
      subst e
      go_enter Try.func31, Try.ntmps31
      go_wp2_with fail
      go_ret
      exact ⟨rfl, rfl⟩
    · have e : B = false := by rw [← HB.out]; simp [mayP, h1]
      have hd : decide (x ≤ 31) = false := by simp; omega
      subst e
      go_enter Try.func31, Try.ntmps31
      go_wp2_with fail
      go_ret
      exact ⟨rfl, rfl⟩
  · have e : B = false := by rw [← HB.out]; simp [mayP, h0]
    have hd : decide (0 ≤ x) = false := by simp; omega
    subst e
    go_enter Try.func31, Try.ntmps31
    go_wp2_with fail
    go_ret
    exact ⟨rfl, rfl⟩
end Go.Proofs.Ytomdnppnabncaaa
