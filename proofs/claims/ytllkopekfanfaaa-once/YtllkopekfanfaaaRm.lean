/- The reference in memory. -/
import Derived.Test.YtllkopekfanfaaaSm
namespace Go.Proofs.Ytllkopekfanfaaa
open Go.RowKit Go.Shelf Go.Lib Go.Sort Go.Maps
attribute [local go_sem] Oper.semAt_some

/-- The cells of the reference's queue. -/
def rcells (n : Int) (V : Value) (sb tb : Nat) (g : Nat → Int × Int) : Array Value := #[.int .i64 n, V, .pointer (some ⟨sb, 0, none⟩), .pointer (some ⟨tb, 0, none⟩), .int .i64 (g 0).1, .int .i64 (g 0).2, .int .i64 (g 1).1, .int .i64 (g 1).2, .int .i64 (g 2).1, .int .i64 (g 2).2, .int .i64 (g 3).1, .int .i64 (g 3).2, .int .i64 (g 4).1, .int .i64 (g 4).2, .int .i64 (g 5).1, .int .i64 (g 5).2, .int .i64 (g 6).1, .int .i64 (g 6).2, .int .i64 (g 7).1, .int .i64 (g 7).2, .int .i64 (g 8).1, .int .i64 (g 8).2, .int .i64 (g 9).1, .int .i64 (g 9).2, .int .i64 (g 10).1, .int .i64 (g 10).2, .int .i64 (g 11).1, .int .i64 (g 11).2, .int .i64 (g 12).1, .int .i64 (g 12).2, .int .i64 (g 13).1, .int .i64 (g 13).2, .int .i64 (g 14).1, .int .i64 (g 14).2, .int .i64 (g 15).1, .int .i64 (g 15).2]
def updG (g : Nat → Int × Int) (t : Nat) (m : Int × Int) : Nat → Int × Int := fun u => if u = t then m else g u
structure Ri (w : World) (rb sb tb : Nat) (V : Value) (Rl : Ml) (g : Nat → Int × Int) (M : Qs) : Prop where
  hh : w.heap[rb]? = some (.cells (rcells M.n V sb tb g) 72 (0, 0))
  ms : Mr w 0 V Rl
  ord : ordM Rl = M.L
  msg : okM Rl
  rs : Rf w sb M.s
  rr : Rf w tb M.r
  os : okL M.s
  or : okL M.r
  ne : sb ≠ tb
  tie : ∀ t : Nat, t < 16 → hasP M.s t = true → M.f t = some (g t)
  len : Rl.length ≤ 32
/-- The reference's queue, by the block of its messages. -/
def Rq (w : World) (rb sb tb : Nat) (B : Option Nat) (M : Qs) : Prop := ∃ V Rl g, B = V.ownBlock ∧ Ri w rb sb tb V Rl g M
variable {w w' : World} {rb sb tb : Nat} {V : Value} {Rl : Ml} {g : Nat → Int × Int} {M : Qs} {B : Option Nat}
theorem Ri.c0 (h : Ri w rb sb tb V Rl g M) : w.cell? ⟨rb, 0, none⟩ = some (.int .i64 M.n) := by simp [World.cell?, h.hh, rcells]
theorem Ri.c1 (h : Ri w rb sb tb V Rl g M) : w.cell? ⟨rb, 1, none⟩ = some V := by simp [World.cell?, h.hh, rcells]
theorem Ri.c2 (h : Ri w rb sb tb V Rl g M) : w.cell? ⟨rb, 2, none⟩ = some (.pointer (some ⟨sb, 0, none⟩)) := by simp [World.cell?, h.hh, rcells]
theorem Ri.c3 (h : Ri w rb sb tb V Rl g M) : w.cell? ⟨rb, 3, none⟩ = some (.pointer (some ⟨tb, 0, none⟩)) := by simp [World.cell?, h.hh, rcells]
theorem Ri.fr (h : Ri w rb sb tb V Rl g M) (i : Nat) : w.frozen? ⟨rb, i, none⟩ = false := by simp [World.frozen?, h.hh]
theorem rc_at (n : Int) (V : Value) (sb tb : Nat) (g : Nat → Int × Int) : ∀ t, t < 16 → (rcells n V sb tb g)[4 + t * 2]? = some (.int .i64 (g t).1) ∧ (rcells n V sb tb g)[4 + t * 2 + 1]? = some (.int .i64 (g t).2) := by
  intro t ht
  rcases (show t = 0 ∨ t = 1 ∨ t = 2 ∨ t = 3 ∨ t = 4 ∨ t = 5 ∨ t = 6 ∨ t = 7 ∨ t = 8 ∨ t = 9 ∨ t = 10 ∨ t = 11 ∨ t = 12 ∨ t = 13 ∨ t = 14 ∨ t = 15 by omega) with rfl | rfl | rfl | rfl | rfl | rfl | rfl | rfl | rfl | rfl | rfl | rfl | rfl | rfl | rfl | rfl <;> exact ⟨rfl, rfl⟩
theorem rc_set (n : Int) (V : Value) (sb tb : Nat) (g : Nat → Int × Int) (m : Int × Int) : ∀ t, t < 16 → ((rcells n V sb tb g).setIfInBounds (4 + t * 2) (.int .i64 m.1)).setIfInBounds (4 + t * 2 + 1) (.int .i64 m.2) = rcells n V sb tb (updG g t m) := by
  intro t ht
  rcases (show t = 0 ∨ t = 1 ∨ t = 2 ∨ t = 3 ∨ t = 4 ∨ t = 5 ∨ t = 6 ∨ t = 7 ∨ t = 8 ∨ t = 9 ∨ t = 10 ∨ t = 11 ∨ t = 12 ∨ t = 13 ∨ t = 14 ∨ t = 15 by omega) with rfl | rfl | rfl | rfl | rfl | rfl | rfl | rfl | rfl | rfl | rfl | rfl | rfl | rfl | rfl | rfl <;> rfl
theorem Ri.mc (h : Ri w rb sb tb V Rl g M) {t : Nat} (ht : t < 16) : w.cell? ⟨rb, 4 + t * 2, none⟩ = some (.int .i64 (g t).1) ∧ w.cell? ⟨rb, 4 + t * 2 + 1, none⟩ = some (.int .i64 (g t).2) := by
  have := rc_at M.n V sb tb g t ht
  simp only [World.cell?, h.hh, Option.isSome_none, Bool.false_eq_true, if_false]
  exact this
theorem Ri.vb (h : Ri w rb sb tb V Rl g M) {k : Nat} (hk : V.ownBlock = some k) : ∃ cur, w.heap[k]? = some (.cells cur 34 (0, 0)) := (owns_block h.ms hk).2
theorem Ri.off (h : Ri w rb sb tb V Rl g M) : rb ≠ sb ∧ rb ≠ tb ∧ ∀ k, V.ownBlock = some k → k ≠ rb ∧ k ≠ sb ∧ k ≠ tb := by
  have hb := h.hh
  obtain ⟨v1, h1, -⟩ := h.rs
  obtain ⟨v2, h2, -⟩ := h.rr
  refine ⟨?_, ?_, fun k hk => ?_⟩
  · rintro rfl
    rw [hb] at h1
    simp at h1
  · rintro rfl
    rw [hb] at h2
    simp at h2
  · obtain ⟨cur, hc⟩ := h.vb hk
    refine ⟨?_, ?_, ?_⟩
    · rintro rfl
      rw [hb] at hc
      simp at hc
    · rintro rfl
      rw [h1] at hc
      simp at hc
    · rintro rfl
      rw [h2] at hc
      simp at hc
theorem Ri.lt (h : Ri w rb sb tb V Rl g M) : rb < w.heap.size ∧ sb < w.heap.size ∧ tb < w.heap.size ∧ ∀ k, V.ownBlock = some k → k < w.heap.size :=
  ⟨lt_of_block h.hh, h.rs.lt, h.rr.lt, fun k hk => by
    obtain ⟨cur, hc⟩ := h.vb hk
    exact lt_of_block hc⟩
/-- What the program's calls leave of it. -/
theorem Ri.keep (h : Ri w rb sb tb V Rl g M) {rs : List Nat} (hk : Kp w w' rs) (hr : ∀ k ∈ rs, ∀ c t, w.heap[k]? = some (.cells c t (0, 0)) → t ≠ 72 ∧ t ≠ 69 ∧ t ≠ 103) (hv : ∀ k, V.ownBlock = some k → k ∉ rs) : Ri w' rb sb tb V Rl g M :=
  ⟨(hk.block rb (lt_of_block h.hh) (fun hm => (hr rb hm _ _ h.hh).1 rfl)).trans h.hh, h.ms.kp hk hv, h.ord, h.msg, h.rs.off hk (fun k hm c => ⟨fun e => (hr k hm c _ e).2.1 rfl, fun e => (hr k hm c _ e).2.2 rfl⟩), h.rr.off hk (fun k hm c => ⟨fun e => (hr k hm c _ e).2.1 rfl, fun e => (hr k hm c _ e).2.2 rfl⟩), h.os, h.or, h.ne, h.tie, h.len⟩
theorem Ri.same (h : Ri w rb sb tb V Rl g M) (hk : Kp w w' []) : Ri w' rb sb tb V Rl g M := h.keep hk (by simp) (by simp)
theorem Ri.rq (h : Ri w rb sb tb V Rl g M) : Rq w rb sb tb V.ownBlock M := ⟨V, Rl, g, rfl, h⟩
theorem Rq.same (h : Rq w rb sb tb B M) (hk : Kp w w' []) : Rq w' rb sb tb B M := by
  obtain ⟨V, Rl, g, e, h⟩ := h
  exact ⟨V, Rl, g, e, h.same hk⟩
theorem Rq.keep (h : Rq w rb sb tb B M) {rs : List Nat} (hk : Kp w w' rs) (hr : ∀ k ∈ rs, ∀ c t, w.heap[k]? = some (.cells c t (0, 0)) → t ≠ 72 ∧ t ≠ 69 ∧ t ≠ 103) (hv : ∀ k, B = some k → k ∉ rs) : Rq w' rb sb tb B M := by
  obtain ⟨V, Rl, g, e, h⟩ := h
  exact ⟨V, Rl, g, e, h.keep hk hr (e ▸ hv)⟩
/-- What a call of the reference leaves. -/
def Rto (w w' : World) (rb sb tb : Nat) (B : Option Nat) (M : Qs) : Prop := ∃ B', Rq w' rb sb tb B' M ∧ (∀ k, B' = some k → B = some k ∨ w.heap.size ≤ k) ∧ Kp w w' [rb, sb, tb]
theorem Rto.stay (h : Rq w rb sb tb B M) (hk : Kp w w' []) : Rto w w' rb sb tb B M := ⟨B, h.same hk, fun _ h => .inl h, hk.nil⟩
theorem Rto.first {w0 : World} (hk : Kp w0 w []) (h : Rto w w' rb sb tb B M) : Rto w0 w' rb sb tb B M := by
  obtain ⟨B', h1, h2, h3⟩ := h
  exact ⟨B', h1, fun k e => (h2 k e).imp id (fun h => Nat.le_trans hk.size h), hk.nil.trans h3⟩
theorem Rto.more {w2 : World} (h : Rto w w' rb sb tb B M) (hk : Kp w' w2 []) : Rto w w2 rb sb tb B M := by
  obtain ⟨B', h1, h2, h3⟩ := h
  exact ⟨B', h1.same hk, h2, h3.trans hk.nil⟩
theorem Rf.kk {w w' : World} {a : Nat} {L : List Dl} (h : Rf w a L) {b : Nat} {L2 : List Dl} (h2 : Rf w b L2) (hk : Kp w w' [b]) (hne : a ≠ b) : Rf w' a L := by
  obtain ⟨v, ha, hd⟩ := h
  obtain ⟨v2, hb, -⟩ := h2
  refine ⟨v, (hk.block a (lt_of_block ha) (by simp; exact hne)).trans ha, hd.kp hk (fun k hk' e => ?_)⟩
  simp only [List.mem_singleton] at e
  subst e
  obtain ⟨-, cur, hc⟩ := owns_block hd hk'
  rw [hb] at hc
  simp at hc
/-- Who waits to send has changed. -/
theorem Ri.sets {L : List Dl} {f' : MF} (h : Ri w rb sb tb V Rl g M) (h1 : Rt w w' sb L) (ho : okL L) (ht : ∀ t : Nat, t < 16 → hasP L t = true → f' t = some (g t)) : Ri w' rb sb tb V Rl g { M with s := L, f := f' } ∧ Kp w w' [rb, sb, tb] := by
  have hf := h.off
  refine ⟨⟨(h1.2.block rb h.lt.1 (by simp; exact hf.1)).trans h.hh, h.ms.kp h1.2 (fun k hk e => by simp only [List.mem_singleton] at e; exact (hf.2.2 k hk).2.1 e), h.ord, h.msg, h1.1, h.rr.kk h.rs h1.2 h.ne.symm, ho, h.or, h.ne, ht, h.len⟩, h1.2.mono (fun k hm _ => by simp only [List.mem_singleton] at hm; simp [hm])⟩
/-- Who waits to receive has changed. -/
theorem Ri.setr {L : List Dl} (h : Ri w rb sb tb V Rl g M) (h1 : Rt w w' tb L) (ho : okL L) : Ri w' rb sb tb V Rl g { M with r := L } ∧ Kp w w' [rb, sb, tb] := by
  have hf := h.off
  refine ⟨⟨(h1.2.block rb h.lt.1 (by simp; exact hf.2.1)).trans h.hh, h.ms.kp h1.2 (fun k hk e => by simp only [List.mem_singleton] at e; exact (hf.2.2 k hk).2.2 e), h.ord, h.msg, h.rs.kk h.rr h1.2 h.ne, h1.1, h.os, ho, h.ne, h.tie, h.len⟩, h1.2.mono (fun k hm _ => by simp only [List.mem_singleton] at hm; simp [hm])⟩
end Go.Proofs.Ytllkopekfanfaaa
