/- The reference in memory. -/
import Derived.BigQuiet
import Derived.Deep.RegionHeldLaw
import Derived.Deep.RegionWith
import Derived.Deep.RegionLaw
import Derived.Test.YtjggpchjfglgcaaSm
namespace Go.Proofs.Ytjggpchjfglgcaa
open Go.RowKit Go.Shelf Go.Lib
attribute [local go_sem] Oper.semAt_some

/-- The cells of the reference's. -/
def rcl (M : Cn) (V : Value) : Array Value := #[.bool M.a, .bool (!M.e), .bool M.o, .bool M.u, V]
structure Ri (w : World) (rb : Nat) (V : Value) (M : Cn) : Prop where
  hh : w.heap[rb]? = some (.cells (rcl M V) 61 (0, 0))
  ms : Mr w 0 V M.L
def Rq (w : World) (rb : Nat) (M : Cn) : Prop := ∃ V, Ri w rb V M
variable {w w' : World} {rb : Nat} {V : Value} {M : Cn}
theorem cellR {w : World} {rb : Nat} {a b c d e : Value} {t : TypeId} (h : w.heap[rb]? = some (.cells #[a, b, c, d, e] t (0, 0))) : w.cell? ⟨rb, 0, none⟩ = some a ∧ w.cell? ⟨rb, 1, none⟩ = some b ∧ w.cell? ⟨rb, 2, none⟩ = some c ∧ w.cell? ⟨rb, 3, none⟩ = some d ∧ w.cell? ⟨rb, 4, none⟩ = some e ∧ ∀ i, w.frozen? ⟨rb, i, none⟩ = false := by
  refine ⟨?_, ?_, ?_, ?_, ?_, fun i => ?_⟩ <;> simp [World.cell?, World.frozen?, h]
theorem Ri.c0 (h : Ri w rb V M) : w.cell? ⟨rb, 0, none⟩ = some (.bool M.a) := (cellR h.hh).1
theorem Ri.c1 (h : Ri w rb V M) : w.cell? ⟨rb, 1, none⟩ = some (.bool (!M.e)) := (cellR h.hh).2.1
theorem Ri.c2 (h : Ri w rb V M) : w.cell? ⟨rb, 2, none⟩ = some (.bool M.o) := (cellR h.hh).2.2.1
theorem Ri.c3 (h : Ri w rb V M) : w.cell? ⟨rb, 3, none⟩ = some (.bool M.u) := (cellR h.hh).2.2.2.1
theorem Ri.c4 (h : Ri w rb V M) : w.cell? ⟨rb, 4, none⟩ = some V := (cellR h.hh).2.2.2.2.1
theorem Ri.fr (h : Ri w rb V M) (i : Nat) : w.frozen? ⟨rb, i, none⟩ = false := (cellR h.hh).2.2.2.2.2 i
theorem Ri.lt (h : Ri w rb V M) : rb < w.heap.size := lt_of_block h.hh
theorem Rq.lt (h : Rq w rb M) : rb < w.heap.size := h.elim fun _ h => h.lt
theorem Ri.off (h : Ri w rb V M) {k : Nat} (e : V.ownBlock = some k) : k ≠ rb := by
  obtain ⟨cur, hc⟩ := (owns_block h.ms e).2
  rintro rfl
  have := h.hh
  rw [this] at hc
  simp at hc
/-- What others' calls leave of it. -/
theorem Ri.keep (h : Ri w rb V M) {rs : List Nat} (hk : Kp w w' rs) (hr : ∀ k ∈ rs, k ≠ rb ∧ ∀ c, w.heap[k]? ≠ some (.cells c 30 (0, 0))) : Ri w' rb V M :=
  ⟨(hk.block rb h.lt (fun hm => (hr rb hm).1 rfl)).trans h.hh, h.ms.kp hk (fun g e hm => (owns_block h.ms e).2.elim fun c hc => (hr g hm).2 c hc)⟩
theorem Ri.keep2 (h : Ri w rb V M) {rs : List Nat} (hk : Kp w w' rs) (hr : rb ∉ rs) (hv : ∀ k, V.ownBlock = some k → k ∉ rs) : Ri w' rb V M := ⟨(hk.block rb h.lt hr).trans h.hh, h.ms.kp hk hv⟩
theorem Ri.same (h : Ri w rb V M) (hk : Kp w w' []) : Ri w' rb V M := h.keep hk (by simp)
theorem Rq.keep (h : Rq w rb M) {rs : List Nat} (hk : Kp w w' rs) (hr : ∀ k ∈ rs, k ≠ rb ∧ ∀ c, w.heap[k]? ≠ some (.cells c 30 (0, 0))) : Rq w' rb M := h.elim fun V h => ⟨V, h.keep hk hr⟩
theorem Rq.same (h : Rq w rb M) (hk : Kp w w' []) : Rq w' rb M := h.keep hk (by simp)
/-- A flag is another one. -/
theorem Ri.flag (h : Ri w rb V M) {U : Cn} (i : Nat) (v : Value) (hL : U.L = M.L) (e : (rcl M V).setIfInBounds i v = rcl U V) : Ri (w.setCell ⟨rb, i, none⟩ v) rb V U := by
  have hs := Kp.setCell w ⟨rb, i, none⟩ v
  refine ⟨by rw [heap_setCell_same w rb i _ 61 v h.hh, e], ?_⟩
  rw [hL]
  exact h.ms.kp hs (fun k hk hm => by simp only [List.mem_singleton] at hm; exact h.off hk hm)
theorem Rq.ask (h : Rq w rb M) : Rq (w.setCell ⟨rb, 0, none⟩ (.bool true)) rb (askM M) := h.elim fun V h => ⟨V, h.flag 0 _ rfl rfl⟩
theorem Rq.off (h : Rq w rb M) (b : Bool) : Rq (w.setCell ⟨rb, 1, none⟩ (.bool (!b))) rb { M with e := b } := h.elim fun V h => ⟨V, h.flag 1 _ rfl rfl⟩
theorem Rq.at (h : Rq w rb M) (b : Bool) : Rq (w.setCell ⟨rb, 2, none⟩ (.bool b)) rb { M with o := b } := h.elim fun V h => ⟨V, h.flag 2 _ rfl rfl⟩
theorem Rq.unw (h : Rq w rb M) : Rq (w.setCell ⟨rb, 3, none⟩ (.bool true)) rb (unwM M) := h.elim fun V h => ⟨V, h.flag 3 _ rfl rfl⟩
/-- The row is another one, made new. -/
theorem Ri.row (h : Ri w rb V M) {z : World} {V' : Value} {L' : Ml} (hk : Kp w z []) (hm : Mr z w.heap.size V' L') : Ri (z.setCell ⟨rb, 4, none⟩ V') rb V' { M with L := L' } := by
  have hs := Kp.setCell z ⟨rb, 4, none⟩ V'
  refine ⟨by rw [heap_setCell_same z rb 4 _ 61 V' (h.same hk).hh]; rfl, (hm.low (Nat.zero_le _)).kp hs (fun k e hx => ?_)⟩
  simp only [List.mem_singleton] at hx
  subst hx
  have := (owns_block hm e).1
  have := h.lt
  omega
/-- What a call of the reference leaves. -/
def Rto (w w' : World) (rb : Nat) (M : Cn) : Prop := Rq w' rb M ∧ Kp w w' [rb]
set_option maxRecDepth 100000 in
theorem rnew_any (w : World) : Calls Try.prog 8 #[] w fun e w' => e = .returned (.pointer (some ⟨w.heap.size, 0, none⟩)) ∧ Rq w' w.heap.size newC ∧ Kp w w' [] := by
  go_enter Try.func8, Try.ntmps8
  go_wp2_with fail
  go_ret
  refine ⟨rfl, ⟨.slice none 0 0, ?_, Mr.nil _ _⟩, Kp.alloc _ _ _⟩
  exact heap_alloc_new w _
set_option maxRecDepth 100000 in
theorem runwind_any (h : Rq w rb M) : Calls Try.prog 30 #[.pointer (some ⟨rb, 0, none⟩)] w fun e w' => e = .returned (.int .i64 (unwE M)) ∧ Rto w w' rb (unwM M) := by
  have H := hid h
  obtain ⟨V, h⟩ := h
  have c3 := h.c3
  have ff := h.fr 3
  unfold unwE
  cases hu : M.u with
  | true =>
    rw [hu] at c3
    have hM : unwM M = M := by
      obtain ⟨a, e, o, u, L⟩ := M
      simp at hu
      subst hu
      rfl
    have HM := hid hM
    clear h hM hu
    go_enter Try.func30, Try.ntmps30
    go_wp2
    go_ret
    rw [HM.out]
    exact ⟨rfl, H.out, Kp.refl _ _⟩
  | false =>
    rw [hu] at c3
    clear h hu
    go_enter Try.func30, Try.ntmps30
    go_wp2
    go_ret
    exact ⟨rfl, H.out.unw, Kp.setCell w ⟨rb, 3, none⟩ (.bool true)⟩
set_option maxRecDepth 100000 in
theorem racts_any (h : Rq w rb M) (p : Bool) : Calls Try.prog 32 #[.pointer (some ⟨rb, 0, none⟩), .bool p] w fun e w' => e = .returned (.bool (actsV M p)) ∧ w' = w := by
  obtain ⟨V, h⟩ := h
  have c0 := h.c0
  have c1 := h.c1
  have c2 := h.c2
  have c3 := h.c3
  clear h
  unfold actsV
  obtain ⟨a, e, o, u, L⟩ := M
  simp only at c0 c1 c2 c3 ⊢
  cases a <;> cases e <;> cases o <;> cases u <;> cases p <;> (
    try simp only [Bool.not_true, Bool.not_false] at c1
    go_enter Try.func32, Try.ntmps32
    go_wp2
    go_ret
    exact ⟨rfl, rfl⟩)
end Go.Proofs.Ytjggpchjfglgcaa
