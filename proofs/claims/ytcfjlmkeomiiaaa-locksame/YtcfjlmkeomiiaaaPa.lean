/- A lock and the reference's, side by side. -/
import Derived.Test.YtcfjlmkeomiiaaaLw
import Derived.Test.YtcfjlmkeomiiaaaLb
import Derived.Test.YtcfjlmkeomiiaaaCy
import Derived.Test.YtcfjlmkeomiiaaaSq
import Derived.Test.YtcfjlmkeomiiaaaRe
import Derived.Test.YtcfjlmkeomiiaaaRu
namespace Go.Proofs.Ytcfjlmkeomiiaaa
open Go.RowKit Go.Shelf Go.Lib Go.Sort Go.Maps
attribute [local go_sem] Oper.semAt_some

/-- Both, by the blocks that they write. -/
def Pa (w : World) (lb rb : Nat) (R : List Nat) (M : Lk) : Prop := ∃ R1 a b, R = R1 ++ [rb, a, b] ∧ Lc w lb R1 M ∧ Rk w rb a b M ∧ ∀ k ∈ [rb, a, b], k ∉ R1
variable {w w' : World} {lb rb a b : Nat} {R R1 : List Nat} {M M' : Lk}
theorem Pa.lt (h : Pa w lb rb R M) : ∀ k ∈ R, k < w.heap.size := by
  obtain ⟨R1, a, b, rfl, h1, h2, -⟩ := h
  intro k hk
  rcases List.mem_append.1 hk with hk | hk
  · exact h1.lt k hk
  · exact h2.old k hk
theorem Pa.kind (h : Pa w lb rb R M) : ∀ k ∈ R, ∀ c, w.heap[k]? ≠ some (.cells c 96 (0, 0)) := by
  obtain ⟨R1, a, b, rfl, h1, h2, -⟩ := h
  intro k hk c
  rcases List.mem_append.1 hk with hk | hk
  · exact h1.kind k hk c
  · exact h2.kind k hk c
theorem Pa.keep (h : Pa w lb rb R M) {rs : List Nat} (hk : Kp w w' rs) (hr : ∀ k ∈ R, k ∉ rs) (hd : ∀ k ∈ rs, ∀ c, w.heap[k]? ≠ some (.cells c 96 (0, 0))) : Pa w' lb rb R M := by
  obtain ⟨R1, a, b, rfl, h1, h2, h3⟩ := h
  exact ⟨R1, a, b, rfl, h1.keep hk (fun k hm => hr k (by simp [hm])), h2.keep hk (fun k hm => hr k (List.mem_append.2 (.inr hm))) hd, h3⟩
theorem Pa.same (h : Pa w lb rb R M) (hk : Kp w w' []) : Pa w' lb rb R M := h.keep hk (by simp) (by simp)
/-- What a step leaves. -/
def Did (w w' : World) (rb : Nat) (R : List Nat) (M : Lk) (e : Ending) : Prop := ∃ lb' R', e = .returned (.tuple #[.pointer (some ⟨lb', 0, none⟩), .pointer (some ⟨rb, 0, none⟩), .bool true]) ∧ Pa w' lb' rb R' M ∧ Nw w R R' ∧ Kp w w' R
/-- The reference, when the program has gone on. -/
theorem Rk.mid (hs : Lc w lb R1 M) (hr : Rk w rb a b M) (h3 : ∀ k ∈ [rb, a, b], k ∉ R1) (h : To w w' lb R1 M') : Rk w' rb a b M := by
  obtain ⟨R2, -, -, k⟩ := h
  exact hr.keep k h3 hs.kind
/-- Both have gone on. -/
theorem pa_fin {w1 w2 : World} (hr : Rk w rb a b M) (h3 : ∀ k ∈ [rb, a, b], k ∉ R1) (h : To w w1 lb R1 M') (h' : Rkt w1 w2 rb a b M') : ∃ R', Pa w2 lb rb R' M' ∧ Nw w (R1 ++ [rb, a, b]) R' ∧ Kp w w2 (R1 ++ [rb, a, b]) := by
  obtain ⟨R2, s, n, k⟩ := h
  have hl := hr.old
  have a1 : ∀ x ∈ [rb, a, b], x ∉ R2 := fun x hx hm => (n x hm).elim (h3 x hx) (fun h => by have := hl x hx; omega)
  refine ⟨R2 ++ [rb, a, b], ⟨R2, a, b, rfl, s.keep h'.2 (fun x hx hm => a1 x hm hx), h'.1, a1⟩, fun x hx => ?_, (k.mono (fun x hx _ => List.mem_append.2 (.inl hx))).trans (h'.2.mono (fun x hx _ => List.mem_append.2 (.inr hx)))⟩
  rcases List.mem_append.1 hx with hx | hx
  · exact (n x hx).imp (fun q => List.mem_append.2 (.inl q)) id
  · exact .inl (List.mem_append.2 (.inr hx))
/-- A copy has taken its place. -/
theorem pa_copy {w2 w3 : World} {RC : List Nat} {cb : Nat} (hs : Lc w lb R1 M) (hr : Rk w rb a b M) (h3 : ∀ k ∈ [rb, a, b], k ∉ R1) (hk : Kp w w2 []) (hc : Lc w2 cb RC M) (hf : ∀ k ∈ RC, w.heap.size ≤ k) (h : To w2 w3 lb R1 M') : ∃ R', Pa w3 cb rb R' M ∧ Nw w (R1 ++ [rb, a, b]) R' ∧ Kp w w3 (R1 ++ [rb, a, b]) := by
  obtain ⟨R2, -, -, k⟩ := h
  have hl := hr.old
  refine ⟨RC ++ [rb, a, b], ⟨RC, a, b, rfl, hc.keep k (fun x hx hm => ?_), (hr.same hk).keep k h3 (hs.same hk).kind, fun x hx hm => ?_⟩, fun x hx => ?_, (hk.nil).trans (k.mono (fun x hx _ => List.mem_append.2 (.inl hx)))⟩
  · have := hf x hx; have := hs.lt x hm; omega
  · have := hf x hm; have := hl x hx; omega
  · rcases List.mem_append.1 hx with hx | hx
    · exact .inr (hf x hx)
    · exact .inl (List.mem_append.2 (.inr hx))
theorem to_step {w1 w2 : World} {R2 : List Nat} (n : Nw w R R2) (k : Kp w w1 R) (h : To w1 w2 lb R2 M) : To w w2 lb R M := by
  obtain ⟨R3, s3, n3, k3⟩ := h
  refine ⟨R3, s3, n.trans n3 k.size, k.past k3 (fun x hx hl => ?_)⟩
  rcases n x hx with q | q
  · exact q
  · omega
theorem cell3 (w : World) (a b c : Value) : (w.alloc (.cells #[a, b, c] 30)).cell? ⟨w.heap.size, 0, none⟩ = some a ∧ (w.alloc (.cells #[a, b, c] 30)).cell? ⟨w.heap.size, 1, none⟩ = some b ∧ (w.alloc (.cells #[a, b, c] 30)).cell? ⟨w.heap.size, 2, none⟩ = some c := by
  refine ⟨?_, ?_, ?_⟩ <;> simp
theorem ints_yes (w : World) (b1 b2 : Nat) (v1 v2 : Value) (l : List Int) (h1 : Ns w b1 v1 l) (h2 : Ns w b2 v2 l) (hl : l.length ≤ 100000) : Calls Try.prog 25 #[v1, v2] w fun e w' => e = .returned (.bool true) ∧ Kp w w' [] := by
  refine (ints_any w b1 b2 v1 v2 l l h1 h2 hl).mono ?_
  rintro e w' ⟨rfl, hk⟩
  exact ⟨by simp, hk⟩
theorem lO_len (E : Int) {M : Lk} (h : Lmid M) : (lO E M).length ≤ 100000 := by
  unfold lO
  split
  · have := let_len _ (Nat.le_refl _) h
    have := size_le h
    omega
  · simp
theorem unO_len {M : Lk} (h : Lmid M) (t : Int) : (unO M t).length ≤ 100000 := by
  unfold unO
  split
  · rename_i hE
    have := let_len _ (Nat.le_refl _) (h.un hE)
    have := size_le (h.un hE)
    omega
  · simp
theorem leO_len {M : Lk} (h : Lmid M) (t : Int) : (leO M t).length ≤ 100000 := by
  rw [(le_eq M t).1]
  exact lO_len _ (h.le t)
theorem chO_len {M : Lk} (h : Lmid M) (t p : Int) : (chO M t p).length ≤ 100000 := by
  rw [(ch_eq M t p).1]
  exact lO_len _ (h.ch t p)
theorem same_refl (M : Lk) : sameB M M = true := same_le.2 ⟨rfl, fun _ _ => rfl, rfl, rfl⟩
end Go.Proofs.Ytcfjlmkeomiiaaa
