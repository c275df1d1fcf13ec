/- A condition beside a step; a list's tail looked at. -/
import Derived.Test.YtpkjnjhbgjgfaaaKn
import Derived.Test.YtpkjnjhbgjgfaaaArgs
import Derived.BigQuiet
namespace Go.Proofs.Ytpkjnjhbgjgfaaa
open Go.RowKit Go.Shelf Go.Lib Go.Sort Go.Maps
attribute [local go_sem] Oper.semAt_some

/-- A slice that reads as these numbers, wherever it begins. -/
def Nv (w : World) (v : Value) (l : List Int) : Prop := ∃ ao cap, v = .slice ao l.length cap ∧ ∀ k, k < l.length → ∃ g o, ao = some ⟨g, o, none⟩ ∧ w.cell? ⟨g, o + k, none⟩ = some (.int .i64 l[k]!)
theorem Nv.keep {w w' : World} {v : Value} {l : List Int} (h : Nv w v l) (hk : Kp w w' []) : Nv w' v l := by
  obtain ⟨ao, cap, e, h⟩ := h
  refine ⟨ao, cap, e, fun k hl => ?_⟩
  obtain ⟨g, o, e, c⟩ := h k hl
  exact ⟨g, o, e, hk.cell c (by simp)⟩
theorem nv_tail {w : World} {base g cap : Nat} {x : Int} {l : List Int} (h : Ns w base (.slice (some ⟨g, 0, none⟩) (l.length + 1) cap) (x :: l)) (o c : Nat) (ho : l ≠ [] → o = 1) : Nv w (.slice (some ⟨g, o, none⟩) l.length c) l := by
  refine ⟨_, c, rfl, fun k hk => ⟨g, o, rfl, ?_⟩⟩
  have ho : o = 1 := ho (fun e => by rw [e] at hk; simp at hk)
  obtain ⟨g', e, hc, -⟩ := h.at (k := k + 1) (by simp; exact hk) (x := l[k]!) (by simp)
  cases e
  rw [ho, Nat.add_comm]
  exact hc
set_option maxRecDepth 100000 in
set_option maxHeartbeats 1000000 in
theorem ints_view (w : World) (b1 : Nat) (v1 v2 : Value) (l : List Int) (h1 : Ns w b1 v1 l) (h2 : Nv w v2 l) (hl : l.length ≤ 100000) :
    Calls Try.prog 19 #[v1, v2] w fun e w' => e = .returned (.bool true) ∧ Kp w w' [] := by
  obtain ⟨ao1, cap1, rfl⟩ := h1.slice
  have h2' := h2
  obtain ⟨ao2, cap2, rfl, -⟩ := h2'
  obtain ⟨N2, hN2⟩ : ∃ N, l.length = N := ⟨_, rfl⟩
  rw [hN2] at hl
  rw [hN2]
  rw [hN2] at h1
  rw [hN2] at h2
  have H := hid (And.intro h1 h2)
  have HN := hid hN2
  clear h1 h2 hN2
  have qn : ((N2 : Int) != N2) = false := by simp
  go_enter Try.func19, Try.ntmps19
  go_wp2_with fail
  go_loopw [5] (fun vi wr => ∃ k : Nat, k ≤ N2 ∧ vi = .int .i64 k ∧ Hid (Kp w wr [])) (fun vi _ => N2 - (intOf vi).toNat)
  case atStart => exact ⟨0, by omega, rfl, hid (Kp.refl _ _)⟩
  case round =>
    obtain ⟨k, hk, rfl, hR⟩ := hrel
    by_cases hlt : k < N2
    · have hltI : (k : Int) < N2 := by omega
      have hk1 : k < l.length := by have := HN.out; omega
      obtain ⟨x, hx⟩ : ∃ x, l[k]! = x := ⟨_, rfl⟩
      obtain ⟨g1, rfl, c1, -⟩ := (H.out.1.keep hR.out).at hk1 rfl
      obtain ⟨ao', cap', e', hv⟩ := H.out.2.keep hR.out
      obtain ⟨g2, o, rfl, d1⟩ := hv k hk1
      rw [HN.out] at e'
      cases e'
      rw [hx] at c1 d1
      clear hx hk1 hv
      have hnq : (x != x) = false := by simp
      have R2 := hid (show ∀ m, Kp w (wr.drewN m) [] from fun m => hR.out.trans (Kp.drewN _ _ _))
      clear hR
      go_wp2_with fail
      go_quiet (fail)
      go_wp2
      go_roundw
      case rel => exact ⟨k + 1, by omega, by simp, hid (R2.out _)⟩
      case measure => simp [intOf]; omega
    · have hltI : ¬ (k : Int) < N2 := by omega
      have R2 := hid hR.out
      clear hR
      go_wp2
      go_ret
      exact ⟨rfl, R2.out⟩
theorem Cm.not30 {w : World} {cb : Nat} {R : List Nat} {m : Int} {L : List Dl} (h : Cm w cb R m L) : ∀ k ∈ R, ∀ c, w.heap[k]? ≠ some (.cells c 30 (0, 0)) := by
  obtain ⟨wb, R0, rfl, hb, pb, V, rfl, h⟩ := h
  intro k hk c
  obtain ⟨P, hP, -⟩ := h.mp
  obtain ⟨es, cl, hp⟩ := hP.obj
  simp only [rows, List.mem_cons, Option.mem_toList] at hk
  rcases hk with rfl | rfl | rfl | hk
  · rw [hb]; simp
  · rw [h.hh]; simp
  · rw [hp]; simp
  · obtain ⟨cur, hc⟩ := h.own hk
    rw [hc]; simp
/-- A condition that was made behind w, lists of numbers beside, and a step at xb. -/
def Cx (w W : World) (cb : Nat) (m : Int) (L : List Dl) (ks : List (Value × List Int)) (xb : Nat) (v : Array Value) : Prop :=
  ∃ R, Cm W cb R m L ∧ (∀ k ∈ R, w.heap.size ≤ k) ∧ (∀ x ∈ ks, Ns W w.heap.size x.1 x.2 ∧ ∀ g, x.1.ownBlock = some g → g ∉ R) ∧ Kp w W [] ∧ W.heap[xb]? = some (.cells v 30 (0, 0))
variable {w W w' : World} {cb xb : Nat} {m m' : Int} {L L' : List Dl} {ks : List (Value × List Int)} {v : Array Value}
theorem Cx.cc (h : Cx w W cb m L ks xb v) : Cc w W cb m L ks := by
  obtain ⟨R, h1, h2, h3, h4, -⟩ := h
  exact ⟨R, h1, h2, h3, h4⟩
theorem Cx.ok (h : Cx w W cb m L ks xb v) : okL L := h.cc.ok
theorem Cx.same (h : Cx w W cb m L ks xb v) (hk : Kp W w' []) : Cx w w' cb m L ks xb v := by
  obtain ⟨R, h1, h2, h3, h4, h5⟩ := h
  exact ⟨R, h1.same hk, h2, fun x hx => ⟨(h3 x hx).1.keep hk, (h3 x hx).2⟩, h4.trans hk, (hk.block xb (lt_of_block h5) (by simp)).trans h5⟩
theorem Cc.cx {w0 : World} (h : Cc w w0 cb m L []) (v : Array Value) : Cx w (w0.alloc (.cells v 30)) cb m L [] w0.heap.size v := by
  obtain ⟨R, h1, h2, h3, h4⟩ := h
  exact ⟨R, h1.same (Kp.alloc _ _ _), h2, by simp, h4.trans (Kp.alloc _ _ _), heap_alloc_new w0 _⟩
theorem Cx.open (h : Cx w W cb m L ks xb v) : ∃ R, Cm W cb R m L ∧ (∀ w' m' L', To W w' cb R m' L' → Cx w w' cb m' L' ks xb v) ∧ (∀ w' m' L' x l, Tl W w' cb R m' L' x l → Cx w w' cb m' L' ((x, l) :: ks) xb v) := by
  obtain ⟨R, h1, h2, h3, h4, h5⟩ := h
  have hx : xb ∉ R := fun hm => h1.not30 xb hm _ h5
  refine ⟨R, h1, fun w' m' L' hT => ?_, fun w' m' L' x l hT => ?_⟩
  · have hb := (hT.kp.block xb (lt_of_block h5) hx).trans h5
    obtain ⟨R', a1, a2, a3, a4⟩ := Cc.to h2 h3 h4 hT
    exact ⟨R', a1, a2, a3, a4, hb⟩
  · have hb := (hT.to.kp.block xb (lt_of_block h5) hx).trans h5
    obtain ⟨R', a1, a2, a3, a4⟩ := Cc.tl h1.lt h2 h3 h4 hT
    exact ⟨R', a1, a2, a3, a4, hb⟩
theorem Cx.cells {a b c d : Value} (h : Cx w W cb m L ks xb #[a, b, c, d]) : W.cell? ⟨xb, 0, none⟩ = some a ∧ W.cell? ⟨xb, 1, none⟩ = some b ∧ W.cell? ⟨xb, 2, none⟩ = some c ∧ W.cell? ⟨xb, 3, none⟩ = some d := by
  obtain ⟨R, h1, h2, h3, h4, h5⟩ := h
  refine ⟨?_, ?_, ?_, ?_⟩ <;> simp [World.cell?, h5]
theorem Cx.wait (h : Cx w W cb m L ks xb v) (t p u : Int) : Calls Try.prog 16 #[.pointer (some ⟨cb, 0, none⟩), .int .i64 t, .int .i64 p, .int .i64 u] W fun e w' => e = .returned (.int .i64 (cwE m L t p u)) ∧ Cx w w' cb (cwM m L t p u) (cwL m L t p u) ks xb v := by
  obtain ⟨R, h1, h2, -⟩ := h.open
  refine (cwait W cb R m L t p u h1).mono ?_
  rintro e w' ⟨rfl, hT⟩
  exact ⟨rfl, h2 _ _ _ hT⟩
theorem Cx.signal (h : Cx w W cb m L ks xb v) : Calls Try.prog 20 #[.pointer (some ⟨cb, 0, none⟩)] W fun e w' => e = .returned (.tuple #[.int .i64 (fstT L), .bool (fstB L)]) ∧ Cx w w' cb m (takeL L) ks xb v := by
  obtain ⟨R, h1, h2, -⟩ := h.open
  refine (csignal W cb R m L h1).mono ?_
  rintro e w' ⟨rfl, hT⟩
  exact ⟨rfl, h2 _ _ _ hT⟩
theorem Cx.leave (h : Cx w W cb m L ks xb v) (t : Int) : Calls Try.prog 22 #[.pointer (some ⟨cb, 0, none⟩), .int .i64 t] W fun e w' => e = .returned (.int .i64 (lvE L t)) ∧ Cx w w' cb m (lvL L t) ks xb v := by
  obtain ⟨R, h1, h2, -⟩ := h.open
  refine (cleave W cb R m L t h1).mono ?_
  rintro e w' ⟨rfl, hT⟩
  exact ⟨rfl, h2 _ _ _ hT⟩
theorem Cx.change (h : Cx w W cb m L ks xb v) (t p : Int) : Calls Try.prog 23 #[.pointer (some ⟨cb, 0, none⟩), .int .i64 t, .int .i64 p] W fun e w' => e = .returned (.int .i64 (chgE L t p)) ∧ Cx w w' cb m (chgL L t p) ks xb v := by
  obtain ⟨R, h1, h2, -⟩ := h.open
  refine (cchange W cb R m L t p h1).mono ?_
  rintro e w' ⟨rfl, hT⟩
  exact ⟨rfl, h2 _ _ _ hT⟩
theorem Cx.broad (h : Cx w W cb m L ks xb v) : Calls Try.prog 21 #[.pointer (some ⟨cb, 0, none⟩)] W fun e w' => ∃ x, e = .returned x ∧ Cx w w' cb m [] ((x, (ordL L).map (·.1)) :: ks) xb v := by
  obtain ⟨R, h1, -, h2⟩ := h.open
  refine (cbroad W cb R m L h1).mono ?_
  rintro e w' ⟨x, rfl, hT⟩
  exact ⟨x, rfl, h2 _ _ _ _ _ hT⟩
theorem Cx.list (h : Cx w W cb m L ks xb v) : Calls Try.prog 14 #[.pointer (some ⟨cb, 0, none⟩)] W fun e w' => ∃ x, e = .returned x ∧ Cx w w' cb m L ((x, (ordL L).map (·.1)) :: ks) xb v ∧ Kp W w' [] := by
  obtain ⟨R, h1, -, h2⟩ := h.open
  refine (clist W _ R m L h1.cv).mono ?_
  rintro e w' ⟨x, rfl, hn, hk⟩
  exact ⟨x, rfl, h2 _ _ _ _ _ ⟨hn, R, h1.same hk, fun _ h => h, hk.nil⟩, hk⟩
theorem Cx.mutex (h : Cx w W cb m L ks xb v) : Calls Try.prog 15 #[.pointer (some ⟨cb, 0, none⟩)] W fun e w' => e = .returned (.tuple #[.int .i64 (muT m L), .bool (muB L)]) ∧ Kp W w' [] := by
  obtain ⟨R, h1, -⟩ := h.open
  exact cmutex W _ R m L h1.cv
theorem Cx.len (h : Cx w W cb m L ks xb v) : Calls Try.prog 18 #[.pointer (some ⟨cb, 0, none⟩)] W fun e w' => e = .returned (.int .i64 L.length) ∧ Kp W w' [] := by
  obtain ⟨R, h1, -⟩ := h.open
  exact clen W _ R m L h1.cv
theorem Cx.ns (h : Cx w W cb m L ks xb v) {x : Value × List Int} (hx : x ∈ ks) : Ns W w.heap.size x.1 x.2 := h.cc.ns hx
theorem Cx.drop (h : Cx w W cb m L ks xb v) : Cc w W cb m L [] := h.cc.drop
theorem mu_len (L : List Dl) : muB L = decide (0 < L.length) := by cases L <;> rfl
theorem mu_eq (m : Int) {L L' : List Dl} (h : muB L = true) (h' : muB L' = true) : muT m L' = muT m L := by
  cases L with
  | nil => exact absurd h (by simp [muB])
  | cons x Z =>
    cases L' with
    | nil => exact absurd h' (by simp [muB])
    | cons y Z' => rfl
end Go.Proofs.Ytpkjnjhbgjgfaaa
