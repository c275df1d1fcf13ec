/- A condition and the reference's, side by side. -/
import Derived.Test.YtpkjnjhbgjgfaaaRk
namespace Go.Proofs.Ytpkjnjhbgjgfaaa
open Go.RowKit Go.Shelf Go.Lib Go.Sort Go.Maps
attribute [local go_sem] Oper.semAt_some

/-- Both, by the blocks that they write. -/
def Pa (w : World) (cb rb : Nat) (R : List Nat) (m : Int) (L : List Dl) : Prop := ∃ R1 q, R = R1 ++ [rb, q] ∧ Cm w cb R1 m L ∧ Rm w rb q m L ∧ rb ∉ R1 ∧ q ∉ R1
variable {w w' : World} {cb rb : Nat} {R : List Nat} {m : Int} {L : List Dl}
theorem Pa.ok (h : Pa w cb rb R m L) : okL L := by
  obtain ⟨R1, q, -, h1, -⟩ := h
  exact h1.ok
theorem Pa.lt (h : Pa w cb rb R m L) : ∀ k ∈ R, k < w.heap.size := by
  obtain ⟨R1, q, rfl, h1, h2, -⟩ := h
  intro k hk
  simp at hk
  have := h2.lt
  rcases hk with hk | rfl | rfl
  · exact h1.lt k hk
  · omega
  · omega
theorem Pa.kind (h : Pa w cb rb R m L) : ∀ k ∈ R, ∀ c, w.heap[k]? ≠ some (.cells c 77 (0, 0)) := by
  obtain ⟨R1, q, rfl, h1, h2, -⟩ := h
  intro k hk c
  rcases List.mem_append.1 hk with hk | hk
  · exact h1.kind k hk c
  · exact h2.kind k hk c
theorem Pa.keep (h : Pa w cb rb R m L) {rs : List Nat} (hk : Kp w w' rs) (hr : ∀ k ∈ R, k ∉ rs) (hd : ∀ k ∈ rs, ∀ c, w.heap[k]? ≠ some (.cells c 77 (0, 0))) : Pa w' cb rb R m L := by
  obtain ⟨R1, q, rfl, h1, h2, h3, h4⟩ := h
  exact ⟨R1, q, rfl, h1.keep hk (fun k hm => hr k (by simp [hm])), h2.keep hk (hr _ (by simp)) (hr _ (by simp)) hd, h3, h4⟩
theorem Pa.same (h : Pa w cb rb R m L) (hk : Kp w w' []) : Pa w' cb rb R m L := h.keep hk (by simp) (by simp)
/-- What a step leaves. -/
def Did (w w' : World) (rb : Nat) (R : List Nat) (m : Int) (L : List Dl) (e : Ending) : Prop := ∃ cb' R', e = .returned (.tuple #[.pointer (some ⟨cb', 0, none⟩), .pointer (some ⟨rb, 0, none⟩), .bool true]) ∧ Pa w' cb' rb R' m L ∧ Nw w R R' ∧ Kp w w' R
/-- The reference, when the program has gone on. -/
theorem Rm.mid {R1 : List Nat} {q : Nat} {u : Int} {M : List Dl} (hs : Cm w cb R1 m L) (hr : Rm w rb q m L) (h3 : rb ∉ R1) (h4 : q ∉ R1) (h : To w w' cb R1 u M) : Rm w' rb q m L := by
  obtain ⟨R2, -, -, k⟩ := h
  exact hr.keep k h3 h4 hs.kind
/-- Both have gone on. -/
theorem pa_fin {w1 w2 : World} {R1 : List Nat} {q : Nat} {u : Int} {M : List Dl} (hr : Rm w rb q m L) (h3 : rb ∉ R1) (h4 : q ∉ R1) (h : To w w1 cb R1 u M) (h' : Rto w1 w2 rb q u M) : ∃ R', Pa w2 cb rb R' u M ∧ Nw w (R1 ++ [rb, q]) R' ∧ Kp w w2 (R1 ++ [rb, q]) := by
  obtain ⟨R2, s, n, k⟩ := h
  obtain ⟨q', mm, n', k'⟩ := h'
  have hl := hr.lt
  have hs := k.size
  have far : ∀ x ∈ R2, x ∈ R1 ∨ w.heap.size ≤ x := n
  have a1 : rb ∉ R2 := fun hm => (far rb hm).elim h3 (fun h => by omega)
  have a2 : q ∉ R2 := fun hm => (far q hm).elim h4 (fun h => by omega)
  have a3 : q' ∉ R2 := fun hm => by
    rcases n' with rfl | h
    · exact a2 hm
    · have := s.lt q' hm; omega
  refine ⟨R2 ++ [rb, q'], ⟨R2, q', rfl, s.keep k' (fun x hx hm => ?_), mm, a1, a3⟩, fun x hx => ?_, (k.mono (fun x hx _ => by simp [hx])).trans (k'.mono (fun x hx _ => by simp at hx; simp [hx]))⟩
  · simp at hm
    rcases hm with rfl | rfl
    · exact a1 hx
    · exact a2 hx
  · simp at hx
    rcases hx with hx | rfl | rfl
    · exact (far x hx).imp (fun h => by simp [h]) id
    · exact .inl (by simp)
    · rcases n' with rfl | h
      · exact .inl (by simp)
      · exact .inr (by omega)
/-- A copy has taken its place. -/
theorem pa_copy {w2 w3 : World} {R1 RC : List Nat} {q nb : Nat} {u : Int} {M : List Dl} (hs : Cm w cb R1 m L) (hr : Rm w rb q m L) (h3 : rb ∉ R1) (h4 : q ∉ R1) (hk : Kp w w2 []) (hc : Cm w2 nb RC m L) (hf : ∀ k ∈ RC, w.heap.size ≤ k) (h : To w2 w3 cb R1 u M) : ∃ R', Pa w3 nb rb R' m L ∧ Nw w (R1 ++ [rb, q]) R' ∧ Kp w w3 (R1 ++ [rb, q]) := by
  obtain ⟨R2, -, -, k⟩ := h
  have hl := hr.lt
  refine ⟨RC ++ [rb, q], ⟨RC, q, rfl, hc.keep k (fun x hx hm => ?_), (hr.same hk).keep k h3 h4 (hs.same hk).kind, fun hm => ?_, fun hm => ?_⟩, fun x hx => ?_, (hk.nil).trans (k.mono (fun x hx _ => by simp [hx]))⟩
  · have := hf x hx; have := hs.lt x hm; omega
  · have := hf _ hm; omega
  · have := hf _ hm; omega
  · simp at hx
    rcases hx with hx | rfl | rfl
    · exact .inr (hf x hx)
    · exact .inl (by simp)
    · exact .inl (by simp)
theorem cell4 (w : World) (a b c d : Value) : (w.alloc (.cells #[a, b, c, d] 30)).cell? ⟨w.heap.size, 0, none⟩ = some a ∧ (w.alloc (.cells #[a, b, c, d] 30)).cell? ⟨w.heap.size, 1, none⟩ = some b ∧ (w.alloc (.cells #[a, b, c, d] 30)).cell? ⟨w.heap.size, 2, none⟩ = some c ∧ (w.alloc (.cells #[a, b, c, d] 30)).cell? ⟨w.heap.size, 3, none⟩ = some d := by
  refine ⟨?_, ?_, ?_, ?_⟩ <;> simp
theorem ints_yes (w : World) (b1 b2 : Nat) (v1 v2 : Value) (l : List Int) (h1 : Ns w b1 v1 l) (h2 : Ns w b2 v2 l) (hl : l.length ≤ 100000) : Calls Try.prog 19 #[v1, v2] w fun e w' => e = .returned (.bool true) ∧ Kp w w' [] := by
  refine (ints_any w b1 b2 v1 v2 l l h1 h2 hl).mono ?_
  rintro e w' ⟨rfl, hk⟩
  exact ⟨by simp, hk⟩
theorem to_kp {f : Nat} {args : Array Value} {w : World} {Q : Ending → Prop} (h : Calls Try.prog f args w fun e w' => Q e ∧ w' = w) : Calls Try.prog f args w fun e w' => Q e ∧ Kp w w' [] := h.mono fun _ _ ⟨a, b⟩ => ⟨a, by rw [b]; exact Kp.refl _ _⟩
end Go.Proofs.Ytpkjnjhbgjgfaaa
