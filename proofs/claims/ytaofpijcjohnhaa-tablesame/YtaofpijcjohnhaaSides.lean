/- Two sides, each a table and its reference, or none. -/
import Derived.Test.YtaofpijcjohnhaaDo
import Derived.Test.YtaofpijcjohnhaaRefSame
import Derived.Test.YtaofpijcjohnhaaNoth
namespace Go.Proofs.Ytaofpijcjohnhaa
open Go.RowKit

/-- A side: none, or both tables; bs: the blocks that a step changes. -/
def Sd (w W : World) (pt pr ao : Option Addr) (cp m : Nat) (s : Nat) (bs : List Nat) : Prop :=
  (pt = none ∧ pr = none ∧ bs = [] ∧ m ≤ s) ∨ (∃ tb rb mb n T l, pt = some ⟨tb, 0, none⟩ ∧ pr = some ⟨rb, 0, none⟩ ∧ bs = [tb, mb] ∧ 1 ≤ n ∧ n ≤ 16 ∧ m ≤ s ∧ Dv w W tb rb mb n (s : Nat) T l ao cp m)
section
variable {w W W' : World} {pt pr ao pt' pr' ao' : Option Addr} {cp m cp' m' s s' : Nat} {bs bs' : List Nat}
theorem Sd.keep (h : Sd w W pt pr ao cp m s bs) (hk : Kp W W' []) : Sd w W' pt pr ao cp m s bs := by
  rcases h with h | ⟨tb, rb, mb, n, T, l, e1, e2, e3, n1, n2, n3, d⟩
  · exact .inl h
  · exact .inr ⟨tb, rb, mb, n, T, l, e1, e2, e3, n1, n2, n3, d.keep hk⟩
/-- The other one's step. -/
theorem Sd.other (h : Sd w W pt pr ao cp m s bs) {tb rb mb n : Nat} {x : Int} {T : Pl} {l : List Int} (d : Dv w W tb rb mb n x T l ao' cp' m') (hk : Kp W W' [tb, mb]) (hap : tb ∉ bs ∧ mb ∉ bs) : Sd w W' pt pr ao cp m s bs := by
  rcases h with h | ⟨tb2, rb2, mb2, n2, T2, l2, e1, e2, rfl, n1, n2', n3, d2⟩
  · exact .inl h
  · refine .inr ⟨tb2, rb2, mb2, n2, T2, l2, e1, e2, rfl, n1, n2', n3, ?_⟩
    have x1 : tb2 ≠ mb := block_ne d2.tt d.rt.bd (by decide)
    have x2 : rb2 ≠ tb := block_ne d2.rt.hd d.tt (by decide)
    have x3 : rb2 ≠ mb := block_ne d2.rt.hd d.rt.bd (by decide)
    have x4 : mb2 ≠ tb := block_ne d2.rt.bd d.tt (by decide)
    simp only [List.mem_cons, List.not_mem_nil, or_false, not_or] at hap
    refine ⟨d2.tt.keep hk (by simp; omega), d2.rt.keep hk (by simp; omega) (by simp; omega), d2.wf, d2.gd, d2.len, owns_kp d2.ol hk fun g hg => ?_, d2.nb, d2.kp.past hk (by intro k hk' hl; have := d.nb; simp at hk'; omega)⟩
    obtain ⟨-, cur, hc⟩ := owns_block d2.ol hg
    have y1 := block_ne hc d.tt (by decide)
    have y2 := block_ne hc d.rt.bd (by decide)
    simp; omega
theorem Sd.lt (h : Sd w W pt pr ao cp m s bs) : ∀ b ∈ bs, b < W.heap.size := by
  rcases h with ⟨-, -, rfl, -⟩ | ⟨tb, rb, mb, n, T, l, -, -, rfl, -, -, -, d⟩
  · simp
  · intro b hb
    simp at hb
    rcases hb with rfl | rfl
    · exact d.tt.lt
    · exact lt_of_block d.rt.bd
theorem Sd.view (h : Sd w W pt pr ao cp m s bs) : ∃ n T, Vw W pt n T ∧ ((pr = none ∧ n = 0 ∧ T = T0) ∨ ∃ rb mb, ∃ k : Nat, pr = some ⟨rb, 0, none⟩ ∧ n = k ∧ 1 ≤ k ∧ k ≤ 16 ∧ Rt W rb mb k T ∧ ∀ i, k ≤ i → T i = (false, 0)) := by
  rcases h with ⟨rfl, rfl, -, -⟩ | ⟨tb, rb, mb, n, T, l, rfl, rfl, -, n1, n2, n3, d⟩
  · exact ⟨0, T0, .inr ⟨.inl rfl, rfl, rfl⟩, .inl ⟨rfl, rfl, rfl⟩⟩
  · exact ⟨n, T, .inl ⟨tb, rfl, d.tt, by omega⟩, .inr ⟨rb, mb, n, rfl, rfl, n1, n2, d.rt, d.wf⟩⟩
/-- Both Sames say the same. -/
theorem same_sides (h : Sd w W pt pr ao cp m s bs) (h' : Sd w W pt' pr' ao' cp' m' s' bs') :
    ∃ bv : Bool, (Calls Try.prog 15 #[.pointer pt, .pointer pt'] W fun e w' => e = .returned (.bool bv) ∧ Kp W w' []) ∧ ∀ W', Kp W W' [] → Calls Try.prog 16 #[.pointer pr, .pointer pr'] W' fun e w' => e = .returned (.bool bv) ∧ Kp W' w' [] := by
  obtain ⟨n, T, v, hv⟩ := h.view
  obtain ⟨n', T', v', hv'⟩ := h'.view
  refine ⟨_, same_any W pt pt' n n' T T' v v', fun W' hk => ?_⟩
  rcases hv with ⟨rfl, rfl, rfl⟩ | ⟨rb, mb, k, rfl, rfl, k1, k2, r, wf⟩
  · refine (rsame_none W' none pr' (.inl rfl)).mono ?_
    rintro e w' ⟨rfl, rfl⟩
    refine ⟨?_, Kp.refl _ _⟩
    rcases hv' with ⟨rfl, rfl, rfl⟩ | ⟨rb', mb', k', rfl, rfl, k1', k2', r', wf'⟩
    · rw [sameT0]; rfl
    · rw [show decide ((0 : Int) = (k' : Nat)) = false by simp; omega]; rfl
  · rcases hv' with ⟨rfl, rfl, rfl⟩ | ⟨rb', mb', k', rfl, rfl, k1', k2', r', wf'⟩
    · refine (rsame_none W' _ none (.inr rfl)).mono ?_
      rintro e w' ⟨rfl, rfl⟩
      refine ⟨?_, Kp.refl _ _⟩
      rw [show decide (((k : Nat) : Int) = 0) = false by simp; omega]; rfl
    · exact rsame_any W' rb mb k rb' mb' k' T T' (r.keep hk (by simp) (by simp)) (r'.keep hk (by simp) (by simp)) wf wf' k2
theorem same_self (h : Sd w W pt pr ao cp m s bs) : Calls Try.prog 15 #[.pointer pt, .pointer pt] W fun e w' => e = .returned (.bool true) ∧ Kp W w' [] := by
  obtain ⟨n, T, v, -⟩ := h.view
  have := same_any W pt pt n n T T v v
  rw [show (decide (n = n) && sameT T T) = true by simp [sameT]] at this
  exact this
end

/-- New, whatever the number. -/
theorem tnew_any (w : World) (n : Int) : Calls Try.prog 7 #[.int .i64 n] w fun e w' => ∃ pt c, e = .returned (.tuple #[.pointer pt, .int .i64 c]) ∧ Kp w w' [] ∧ ((¬ (1 ≤ n ∧ n ≤ 16) ∧ pt = none) ∨ (∃ tb, ∃ k : Nat, n = k ∧ 1 ≤ k ∧ k ≤ 16 ∧ pt = some ⟨tb, 0, none⟩ ∧ w.heap.size ≤ tb ∧ Tt w' tb k T0)) := by
  by_cases hg : 1 ≤ n ∧ n ≤ 16
  · refine (new_ok w n hg.1 hg.2).mono ?_
    rintro e w' ⟨rfl, rfl⟩
    obtain ⟨k, rfl⟩ := Int.eq_ofNat_of_zero_le (show 0 ≤ n by omega)
    exact ⟨_, _, rfl, Kp.alloc _ _ _, .inr ⟨_, k, rfl, by omega, by omega, rfl, Nat.le_refl _, heap_alloc_new w _⟩⟩
  · refine (new_no w n hg).mono ?_
    rintro e w' ⟨rfl, rfl⟩
    exact ⟨_, _, rfl, Kp.refl _ _, .inl ⟨hg, rfl⟩⟩
theorem rnew_any (w : World) (n : Int) : Calls Try.prog 8 #[.int .i64 n] w fun e w' => ∃ pr, e = .returned (.pointer pr) ∧ Kp w w' [] ∧ ((¬ (1 ≤ n ∧ n ≤ 16) ∧ pr = none) ∨ (∃ rb mb, ∃ k : Nat, n = k ∧ 1 ≤ k ∧ k ≤ 16 ∧ pr = some ⟨rb, 0, none⟩ ∧ w.heap.size ≤ rb ∧ w.heap.size ≤ mb ∧ Rt w' rb mb k T0)) := by
  by_cases hg : 1 ≤ n ∧ n ≤ 16
  · obtain ⟨k, rfl⟩ := Int.eq_ofNat_of_zero_le (show 0 ≤ n by omega)
    refine (rnew_ok w k (by omega) (by omega)).mono ?_
    rintro e w' ⟨rb, mb, rfl, r, h1, h2, hk⟩
    exact ⟨_, rfl, hk, .inr ⟨rb, mb, k, rfl, by omega, by omega, rfl, h1, h2, r⟩⟩
  · refine (rnew_no w n hg).mono ?_
    rintro e w' ⟨rfl, rfl⟩
    exact ⟨_, rfl, Kp.refl _ _, .inl ⟨hg, rfl⟩⟩
/-- A side at first. -/
theorem side0 {w A B C D E : World} {n : Int} {pt pr : Option Addr} (ht : (¬ (1 ≤ n ∧ n ≤ 16) ∧ pt = none) ∨ (∃ tb, ∃ k : Nat, n = k ∧ 1 ≤ k ∧ k ≤ 16 ∧ pt = some ⟨tb, 0, none⟩ ∧ A.heap.size ≤ tb ∧ Tt B tb k T0))
    (hr : (¬ (1 ≤ n ∧ n ≤ 16) ∧ pr = none) ∨ (∃ rb mb, ∃ k : Nat, n = k ∧ 1 ≤ k ∧ k ≤ 16 ∧ pr = some ⟨rb, 0, none⟩ ∧ C.heap.size ≤ rb ∧ C.heap.size ≤ mb ∧ Rt D rb mb k T0))
    (k1 : Kp w A []) (k2 : Kp A B []) (k3 : Kp B C []) (k4 : Kp C D []) (k5 : Kp D E []) : ∃ bs, Sd w E pt pr none 0 0 0 bs ∧ ∀ b ∈ bs, (A.heap.size ≤ b ∧ b < B.heap.size) ∨ (C.heap.size ≤ b ∧ b < D.heap.size) := by
  rcases ht with ⟨hn, rfl⟩ | ⟨tb, k, rfl, c1, c2, rfl, htb, t⟩
  · rcases hr with ⟨-, rfl⟩ | ⟨rb, mb, k, rfl, c1, c2, rfl, -, -, r⟩
    · exact ⟨[], .inl ⟨rfl, rfl, rfl, by omega⟩, by simp⟩
    · exact absurd (by omega) hn
  · rcases hr with ⟨hn, rfl⟩ | ⟨rb, mb, k', hk', -, -, rfl, hrb, hmb, r⟩
    · exact absurd (by omega) hn
    · obtain rfl : k = k' := by omega
      have s1 := k1.size
      have s2 := k2.size
      have s3 := k3.size
      have t' := ((t.keep k3 (by simp)).keep k4 (by simp)).keep k5 (by simp)
      have r' := r.keep k5 (by simp) (by simp)
      refine ⟨[tb, mb], .inr ⟨tb, rb, mb, k, T0, [], rfl, rfl, rfl, c1, c2, Nat.le_refl _, t', r', fun _ _ => rfl, fun _ _ => ⟨Int.le_refl 0, Int.le_refl 0⟩, rfl, ⟨rfl, .inl ⟨rfl, rfl⟩⟩, by omega, (((k1.trans k2).trans k3).trans k4).trans k5⟩, ?_⟩
      intro b hb
      simp at hb
      rcases hb with rfl | rfl
      · exact .inl ⟨htb, t.lt⟩
      · exact .inr ⟨hmb, lt_of_block r.bd⟩
end Go.Proofs.Ytaofpijcjohnhaa
