/- Signals and the reference's, side by side. -/
import Derived.Test.YtoenipaccnpihaaKw
namespace Go.Proofs.Ytoenipaccnpihaa
open Go.RowKit Go.Shelf Go.Sort Go.Maps
open Go.Lib hiding intOf
attribute [local go_sem] Oper.semAt_some

/-- Both, by the blocks that they write. -/
def Pa (w : World) (sb rb : Nat) (R Q : List Nat) (T S : Nat) (M : Nat → Nat) (L : El) : Prop := Sg w sb R T S M L ∧ Rm w rb Q T S M L ∧ ∀ k ∈ R, k ∉ Q
section
variable {w w' : World} {sb rb : Nat} {R Q : List Nat} {T S : Nat} {M M' : Nat → Nat} {L L' : El}
theorem Pa.lt (h : Pa w sb rb R Q T S M L) : ∀ k ∈ R ++ Q, k < w.heap.size := by
  intro k hk
  rcases List.mem_append.1 hk with hk | hk
  · exact h.1.lt k hk
  · exact h.2.1.lt k hk
theorem Pa.keep (h : Pa w sb rb R Q T S M L) {rs : List Nat} (hk : Kp w w' rs) (hr : ∀ k ∈ R ++ Q, k ∉ rs) : Pa w' sb rb R Q T S M L :=
  ⟨h.1.keep hk fun k hm => hr k (List.mem_append_left _ hm), h.2.1.keep hk fun k hm => hr k (List.mem_append_right _ hm), h.2.2⟩
theorem Pa.same (h : Pa w sb rb R Q T S M L) (hk : Kp w w' []) : Pa w' sb rb R Q T S M L := h.keep hk (by simp)
/-- What a step leaves. -/
def Did (w w' : World) (rb : Nat) (R Q : List Nat) (T S : Nat) (M : Nat → Nat) (L : El) (e : Ending) : Prop := ∃ sb' R' Q', e = .returned (.tuple #[.pointer (some ⟨sb', 0, none⟩), .pointer (some ⟨rb, 0, none⟩), .bool true]) ∧ Pa w' sb' rb R' Q' T S M L ∧ Nw w (R ++ Q) (R' ++ Q') ∧ Kp w w' (R ++ Q)
/-- The reference, when the program has gone on. -/
theorem Pa.mid (h : Pa w sb rb R Q T S M L) (ht : To w w' sb R T S M' L') : Rm w' rb Q T S M L := by
  obtain ⟨R2, -, -, k⟩ := ht
  exact h.2.1.keep k fun x hx hm => h.2.2 x hm hx
/-- Both have gone on. -/
theorem Pa.fin {w1 w2 : World} (h : Pa w sb rb R Q T S M L) (ht : To w w1 sb R T S M' L') (hr : Rst w1 w2 rb Q T S M' L') : ∃ R' Q', Pa w2 sb rb R' Q' T S M' L' ∧ Nw w (R ++ Q) (R' ++ Q') ∧ Kp w w2 (R ++ Q) := by
  have hm := h.mid ht
  obtain ⟨hs, h2, hd⟩ := h
  obtain ⟨R', s, n, k⟩ := ht
  obtain ⟨Q', mm, n', k'⟩ := hr
  have hz := k.size
  have hrb := hm.mem
  have dq : ∀ x ∈ R', x ∉ Q := fun x hx hq => by
    rcases n x hx with q | q
    · exact hd x q hq
    · have := h2.lt x hq; omega
  refine ⟨R', Q', ⟨s.keep k' (fun x hx hm => ?_), mm, fun x hx hq => ?_⟩, fun x hx => ?_, (k.mono (fun x hx _ => List.mem_append_left _ hx)).trans (k'.mono (fun x hx _ => ?_))⟩
  · simp at hm
    subst hm
    exact dq _ hx hrb
  · rcases n' x hq with q | q
    · exact dq x hx q
    · have := s.lt x hx; omega
  · rcases List.mem_append.1 hx with hx | hx
    · exact (n x hx).imp (fun h => List.mem_append_left _ h) id
    · exact (n' x hx).imp (fun h => List.mem_append_right _ h) (fun h => Nat.le_trans hz h)
  · simp at hx
    subst hx
    exact List.mem_append_right _ hrb
/-- A copy has taken its place. -/
theorem Pa.copy {w2 w3 : World} {RC : List Nat} {ob : Nat} (h : Pa w sb rb R Q T S M L) (hk : Kp w w2 []) (hc : Sg w2 ob RC T S M L) (hf : ∀ k ∈ RC, w.heap.size ≤ k) (ht : To w2 w3 sb R T S M' L') : ∃ R' Q', Pa w3 ob rb R' Q' T S M L ∧ Nw w (R ++ Q) (R' ++ Q') ∧ Kp w w3 (R ++ Q) := by
  obtain ⟨hs, h2, hd⟩ := h
  obtain ⟨R2, -, -, k⟩ := ht
  refine ⟨RC, Q, ⟨hc.keep k (fun x hx hm => ?_), (h2.same hk).keep k (fun x hx hm => hd x hm hx), fun x hx hq => ?_⟩, fun x hx => ?_, (hk.nil).trans (k.mono (fun x hx _ => List.mem_append_left _ hx))⟩
  · have := hf x hx; have := hs.lt x hm; omega
  · have := hf x hx; have := h2.lt x hq; omega
  · rcases List.mem_append.1 hx with hx | hx
    · exact .inr (hf x hx)
    · exact .inl (List.mem_append_right _ hx)
end
theorem cell5 (w : World) (a b c d e : Value) : (w.alloc (.cells #[a, b, c, d, e] 36)).cell? ⟨w.heap.size, 0, none⟩ = some a ∧ (w.alloc (.cells #[a, b, c, d, e] 36)).cell? ⟨w.heap.size, 1, none⟩ = some b ∧ (w.alloc (.cells #[a, b, c, d, e] 36)).cell? ⟨w.heap.size, 2, none⟩ = some c ∧ (w.alloc (.cells #[a, b, c, d, e] 36)).cell? ⟨w.heap.size, 3, none⟩ = some d ∧ (w.alloc (.cells #[a, b, c, d, e] 36)).cell? ⟨w.heap.size, 4, none⟩ = some e := by
  refine ⟨?_, ?_, ?_, ?_, ?_⟩ <;> simp
/-- SetMask's answers, and the masks behind it. -/
def smU (T : Nat) (M : Nat → Nat) (t : Int) : Nat := if inT T t then M t.toNat else 0
def smE (T : Nat) (t : Int) : Int := if inT T t then 0 else 2
def smM (T : Nat) (M : Nat → Nat) (t : Int) (x : Nat) : Nat → Nat := if inT T t then upd M t.toNat (noB x 1) else M
theorem setmask_any (w : World) (sb : Nat) (R : List Nat) (T S : Nat) (M : Nat → Nat) (L : El) (t : Int) (x : Nat) (h : Sg w sb R T S M L) (hx : x < 4294967296) : Calls Try.prog 19 #[.pointer (some ⟨sb, 0, none⟩), .int .i64 t, .int .u32 x] w fun e w' => e = .returned (.tuple #[.int .u32 (smU T M t : Nat), .int .i64 (smE T t)]) ∧ To w w' sb R T S (smM T M t x) L := by
  by_cases ht : inT T t = true
  · obtain ⟨k, rfl, hk⟩ := inT_yes ht
    refine (setmask_yes w sb R T S M L k x h hk hx).mono ?_
    rintro e w' ⟨rfl, hT⟩
    refine ⟨by simp [smU, smE, ht], by simpa [smM, ht] using hT⟩
  · simp only [Bool.not_eq_true] at ht
    refine (setmask_no w sb R T S M L t _ h ht).mono ?_
    rintro e w' ⟨rfl, rfl⟩
    refine ⟨by simp [smU, smE, ht], by simpa [smM, ht] using To.stay h (Kp.refl _ _)⟩
theorem rsetmask_any (w : World) (rb : Nat) (Q : List Nat) (T S : Nat) (M : Nat → Nat) (L : El) (t : Int) (x : Nat) (h : Rm w rb Q T S M L) (hT : T ≤ 16) (hx : x < 4294967296) : Calls Try.prog 26 #[.pointer (some ⟨rb, 0, none⟩), .int .i64 t, .int .u32 x] w fun e w' => e = .returned (.tuple #[.int .u32 (smU T M t : Nat), .int .i64 (smE T t)]) ∧ Rst w w' rb Q T S (smM T M t x) L := by
  by_cases ht : inT T t = true
  · obtain ⟨k, rfl, hk⟩ := inT_yes ht
    refine (rsetmask_yes w rb Q T S M L k x h hT hk hx).mono ?_
    rintro e w' ⟨rfl, hR⟩
    refine ⟨by simp [smU, smE, ht], by simpa [smM, ht] using hR⟩
  · simp only [Bool.not_eq_true] at ht
    refine (rsetmask_no w rb Q T S M L t _ h ht).mono ?_
    rintro e w' ⟨rfl, rfl⟩
    refine ⟨by simp [smU, smE, ht], by simpa [smM, ht] using Rst.stay h (Kp.refl _ _)⟩
theorem nxV_ex (T : Nat) (L : El) (t : Int) (Z : Nat) : ∃ a b : Int, nxV T L t Z = .agg #[.int .i64 a, .int .i64 b] := by
  unfold nxV Sv
  split
  · exact ⟨_, _, rfl⟩
  · exact ⟨_, _, rfl⟩
/-- A step: what is pending, the masks. -/
def stL (T S : Nat) (L : El) (k t n v : Int) (x : Nat) : El := if k = 1 then sendL T S L t n v else if k = 3 then nxL T L t x else if k = 4 then leftV T L t else L
def stM (T : Nat) (M : Nat → Nat) (k t : Int) (x : Nat) : Nat → Nat := if k = 2 then smM T M t x else if k = 4 then clM T M t else M
theorem num_kp (w : World) (x : Int) : Calls Try.prog 9 #[.int .i64 x] w fun e w' => e = .returned (.int .i64 x) ∧ Kp w w' [] := kp_same (num_any w x)
end Go.Proofs.Ytoenipaccnpihaa
