/- What SignalsQueue keeps, plainly. -/
import Derived.Test.YtoenipaccnpihaaRa
import Derived.Test.YtoenipaccnpihaaSd
namespace Go.Proofs.Ytoenipaccnpihaa
open Go.RowKit Go.Shelf Go.Sort Go.Maps
open Go.Lib hiding intOf
attribute [local go_sem] Oper.semAt_some

def updZ (Z : Nat → List Int) (i : Nat) (l : List Int) : Nat → List Int := fun j => if j = i then l else Z j
/-- So many pending that queue, of numbers below k. -/
def sQ (L : El) (k : Nat) : Nat := L.countP fun x => decide (16 ≤ x.2.1) && decide (x.2.1 < k)
theorem count_add {α : Type} (p q r : α → Bool) : ∀ l : List α, (∀ x ∈ l, (r x = (p x || q x)) ∧ ¬ (p x = true ∧ q x = true)) → l.countP r = l.countP p + l.countP q
  | [], _ => rfl
  | x :: l, h => by
    have ih := count_add p q r l (fun y hy => h y (by simp [hy]))
    obtain ⟨h1, h2⟩ := h x (by simp)
    simp only [List.countP_cons, h1]
    cases hp : p x <;> cases hq : q x <;> simp_all <;> omega
theorem q_count (L : El) (n : Nat) (h : ∀ x ∈ L, x.1 = 1) : (q L 1 n).length = L.countP fun x => x.2.1 == n := by
  unfold q
  rw [List.length_map, ← List.countP_eq_length_filter]
  refine List.countP_congr fun x hx => ?_
  simp [h x hx]
theorem sQ_step (L : El) (h : ∀ x ∈ L, x.1 = 1) (k : Nat) (hk : 16 ≤ k) : sQ L (k + 1) = sQ L k + (q L 1 k).length := by
  rw [q_count L k h]
  unfold sQ
  refine count_add _ _ _ L fun x _ => ⟨?_, ?_⟩
  · rw [Bool.eq_iff_iff]
    simp
    omega
  · simp
    omega
theorem sQ_zero (L : El) : sQ L 16 = 0 := by
  unfold sQ
  rw [List.countP_eq_zero]
  intro x _
  simp
theorem sQ_used (L : El) (h : ∀ x ∈ L, x.2.1 < 32) : sQ L 32 = used L := by
  unfold sQ used
  refine List.countP_congr fun x hx => ?_
  have := h x hx
  simp
  omega
theorem sQ_le (L : El) (k : Nat) : sQ L k ≤ used L := by
  unfold sQ used
  refine List.countP_mono_left fun x _ h => ?_
  simp at h ⊢
  omega
/-- Behind so many steps. -/
structure Pv (i : Nat) (L : El) (Z : Nat → List Int) : Prop where
  thr : ∀ x ∈ L, x.1 = 1
  row : ∀ n, 16 ≤ n → n < 32 → Z n = Z (32 + n) ++ q L 1 n
  lo : ∀ n, n < 16 → Z (32 + n) = []
  len : ∀ n, n < 32 → (Z n).length ≤ i
theorem Pv.more {i j : Nat} {L : El} {Z : Nat → List Int} (h : Pv i L Z) (hj : i ≤ j) : Pv j L Z := ⟨h.thr, h.row, h.lo, fun n hn => Nat.le_trans (h.len n hn) hj⟩
theorem Pv.send {i S : Nat} {L : El} {Z : Nat → List Int} (h : Pv i L Z) (N v : Int) :
    (sendE 3 S L 1 N = 0 ∧ 16 ≤ N → ∃ n : Nat, N = n ∧ 16 ≤ n ∧ n ≤ 31 ∧ Pv (i + 1) (sendL 3 S L 1 N v) (updZ Z n (Z n ++ [v]))) ∧ (¬ (sendE 3 S L 1 N = 0 ∧ 16 ≤ N) → Pv (i + 1) (sendL 3 S L 1 N v) Z) := by
  have h3 : inT 3 1 = true := by decide
  unfold sendE sendL
  rw [h3, Bool.true_and]
  cases hm : maySig N with
  | false =>
    rw [if_neg (by simp), if_neg (by simp)]
    exact ⟨fun e => absurd e.1 (by decide), fun _ => h.more (by omega)⟩
  | true =>
    rw [if_pos rfl, if_pos rfl]
    have hb : 1 ≤ N ∧ N ≤ 31 := by
      simp [maySig] at hm
      omega
    by_cases h15 : 15 < N
    · rw [if_pos h15]
      by_cases hu : used L = S
      · rw [if_pos ⟨h15, hu⟩, if_pos hu]
        exact ⟨fun e => absurd e.1 (by decide), fun _ => h.more (by omega)⟩
      · rw [if_neg (fun e => hu e.2), if_neg hu]
        refine ⟨fun _ => ⟨N.toNat, by omega, by omega, by omega, ?_, ?_, ?_, ?_⟩, fun e => absurd ⟨rfl, by omega⟩ e⟩
        · intro x hx
          rcases List.mem_append.1 hx with hx | hx
          · exact h.thr x hx
          · simp at hx
            rw [hx]
        · intro n h1 h2
          unfold updZ
          rw [show (1 : Int).toNat = 1 from rfl, q_send]
          by_cases e : n = N.toNat
          · rw [if_pos e, if_neg (by omega), if_pos ⟨rfl, e⟩]
            rw [h.row N.toNat (by omega) (by omega), e]
            simp
          · rw [if_neg e, if_neg (by omega), if_neg (fun e' => e e'.2)]
            exact h.row n h1 h2
        · intro n hn
          unfold updZ
          rw [if_neg (by omega)]
          exact h.lo n hn
        · intro n hn
          unfold updZ
          have := h.len n hn
          split
          · rename_i e
            subst e
            simp
            omega
          · omega
    · rw [if_neg h15]
      refine ⟨fun e => absurd e.2 (by omega), fun _ => ?_⟩
      split
      · refine ⟨?_, ?_, h.lo, fun n hn => Nat.le_trans (h.len n hn) (by omega)⟩
        · intro x hx
          rcases List.mem_append.1 hx with hx | hx
          · exact h.thr x hx
          · simp at hx
            rw [hx]
        · intro n h1 h2
          rw [q_send, if_neg (by omega)]
          exact h.row n h1 h2
      · exact h.more (by omega)
theorem hd_tail {L : El} {n : Nat} (h : q L 1 n ≠ []) : q L 1 n = hdv L 1 n :: (q L 1 n).tail := by
  unfold hdv
  cases hq : q L 1 n with
  | nil => exact absurd hq h
  | cons a r => rfl
theorem Pv.next {i T S : Nat} {L : El} {Z : Nat → List Int} (h : Pv i L Z) (ho : Ok T S L) {W : Nat} (hn : low L 1 W ≤ 31) :
    1 ≤ low L 1 W ∧ W.testBit (low L 1 W) = true ∧ (16 ≤ low L 1 W → Pv (i + 1) (rm L 1 (low L 1 W)) (updZ Z (32 + low L 1 W) (Z (32 + low L 1 W) ++ [hdv L 1 (low L 1 W)]))) ∧ (low L 1 W < 16 → hdv L 1 (low L 1 W) = 0 ∧ Pv (i + 1) (rm L 1 (low L 1 W)) Z) := by
  obtain ⟨h1, h2, h3, -⟩ := low_some (L := L) (t := 1) (W := W) (by omega)
  generalize low L 1 W = m at *
  have ht := hd_tail h3
  refine ⟨h1, h2, fun h16 => ⟨fun x hx => h.thr x (rm_mem hx), fun n a b => ?_, fun n a => ?_, fun n a => ?_⟩, fun hlt => ⟨?_, fun x hx => h.thr x (rm_mem hx), fun n a b => ?_, h.lo, fun n a => Nat.le_trans (h.len n a) (by omega)⟩⟩
  · unfold updZ
    rw [if_neg (by omega), q_rm]
    by_cases e : n = m
    · subst e
      rw [if_pos rfl, if_pos ⟨rfl, rfl⟩, h.row n a b]
      conv => lhs; rw [ht]
      simp
    · rw [if_neg (by omega), if_neg (by omega)]
      exact h.row n a b
  · unfold updZ
    rw [if_neg (by omega)]
    exact h.lo n a
  · unfold updZ
    rw [if_neg (by omega)]
    exact Nat.le_trans (h.len n a) (by omega)
  · obtain ⟨x, hx, e1, e2⟩ := q_ne.1 h3
    have : hdv L 1 m ∈ q L 1 m := by
      rw [ht]
      unfold hdv
      simp
    unfold q at this
    obtain ⟨y, hy, e⟩ := List.mem_map.1 this
    have hy' := List.mem_filter.1 hy
    rw [← e]
    refine ho.nul y hy'.1 ?_
    have := hy'.2
    simp at this
    omega
  · rw [q_rm, if_neg (by omega)]
    exact h.row n a b
/-- While all that is left is taken. -/
structure Pd (L : El) (Z : Nat → List Int) : Prop where
  thr : ∀ x ∈ L, x.1 = 1
  row : ∀ n, 16 ≤ n → n < 32 → Z n = Z (32 + n) ++ q L 1 n
  lo : ∀ n, n < 16 → (Z (32 + n)).length + (q L 1 n).length ≤ 1
  len : ∀ n, n < 32 → (Z n).length ≤ 120
theorem Pv.drain {i T S : Nat} {L : El} {Z : Nat → List Int} (h : Pv i L Z) (ho : Ok T S L) (hi : i ≤ 120) : Pd L Z := ⟨h.thr, h.row, fun n hn => by
  rw [h.lo n hn]
  have := ho.one 1 n hn
  simp
  exact this, fun n hn => Nat.le_trans (h.len n hn) hi⟩
theorem Pd.next {L : El} {Z : Nat → List Int} (h : Pd L Z) {W : Nat} (hn : low L 1 W ≤ 31) :
    1 ≤ low L 1 W ∧ Pd (rm L 1 (low L 1 W)) (updZ Z (32 + low L 1 W) (Z (32 + low L 1 W) ++ [hdv L 1 (low L 1 W)])) ∧ (Z (32 + low L 1 W) ++ [hdv L 1 (low L 1 W)]).length ≤ 200 := by
  obtain ⟨h1, h2, h3, -⟩ := low_some (L := L) (t := 1) (W := W) (by omega)
  generalize low L 1 W = m at *
  have ht := hd_tail h3
  refine ⟨h1, ⟨fun x hx => h.thr x (rm_mem hx), fun n a b => ?_, fun n a => ?_, fun n a => ?_⟩, ?_⟩
  · unfold updZ
    rw [if_neg (by omega), q_rm]
    by_cases e : n = m
    · subst e
      rw [if_pos rfl, if_pos ⟨rfl, rfl⟩, h.row n a b]
      conv => lhs; rw [ht]
      simp
    · rw [if_neg (by omega), if_neg (by omega)]
      exact h.row n a b
  · unfold updZ
    rw [q_rm]
    have := h.lo n a
    by_cases e : n = m
    · subst e
      rw [if_pos rfl, if_pos ⟨rfl, rfl⟩]
      have := congrArg List.length ht
      simp at this ⊢
      omega
    · rw [if_neg (by omega), if_neg (by omega)]
      exact this
  · unfold updZ
    rw [if_neg (by omega)]
    exact h.len n a
  · have hl := congrArg List.length ht
    simp at hl ⊢
    by_cases h16 : 16 ≤ m
    · have a := congrArg List.length (h.row m h16 (by omega))
      have b := h.len m (by omega)
      simp at a
      omega
    · have := h.lo m (by omega)
      omega
theorem Pd.fin {T S : Nat} {L : El} {Z : Nat → List Int} (h : Pd L Z) (ho : Ok T S L) (hn : ¬ low L 1 W32 ≤ 31) : L = [] ∧ ∀ n, 16 ≤ n → n < 32 → Z n = Z (32 + n) := by
  have hl : low L 1 W32 = 32 := by have := low_le (L := L) (t := 1) (W := W32); omega
  have h0 := low_none hl
  have hL : L = [] := by
    cases hc : L with
    | nil => rfl
    | cons x r =>
      exfalso
      have hx : x ∈ L := by rw [hc]; simp
      have hb := ho.inn x hx
      refine h0 x.2.1 hb.2.1 hb.2.2 ⟨?_, q_ne.2 ⟨x, hx, h.thr x hx, rfl⟩⟩
      have : ∀ m : Nat, m ≤ 31 → W32.testBit m = true := by decide
      exact this _ hb.2.2
  refine ⟨hL, fun n a b => ?_⟩
  rw [h.row n a b, hL, q_nil, List.append_nil]
end Go.Proofs.Ytoenipaccnpihaa
