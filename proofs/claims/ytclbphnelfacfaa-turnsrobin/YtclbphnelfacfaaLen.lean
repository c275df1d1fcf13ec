/- Len: how many are ready. -/
import Derived.Test.YtclbphnelfacfaaAll
namespace Go.Proofs.Ytclbphnelfacfaa
open Go.RowKit Go.Shelf
attribute [local go_sem] Oper.semAt_some

/-- What a pointer shows: a ready list with the links c, or none. -/
def Vw (w : World) (p : Option Addr) (c : Nat → Nat) (L : Nat → List Nat) : Prop := (∃ rb u s, p = some ⟨rb, 0, none⟩ ∧ Rr w rb c u s ∧ Rep c u L) ∨ (Zr w p ∧ c = cz ∧ L = fun _ => [])
theorem Rep.not_zero {c : Nat → Nat} {u : Nat} {L : Nat → List Nat} (h : Rep c u L) : c 32 ≠ 0 := by
  intro e
  have h1 := h.inv 32 (by decide)
  rw [e] at h1
  have h2 := h.last_lt (p := 0) (by decide)
  rw [h.empty (p := 0) (by omega)] at h2
  have : c (48 + 0) = 0 := h2.2
  omega
section
variable {w w' : World} {p : Option Addr} {c : Nat → Nat} {L : Nat → List Nat}
theorem Vw.keep (h : Vw w p c L) (hk : Kp w w' []) : Vw w' p c L := by
  rcases h with ⟨rb, u, s, rfl, h, h1⟩ | ⟨hz, rfl, rfl⟩
  · exact .inl ⟨rb, u, s, rfl, h.keep hk (by simp), h1⟩
  · exact .inr ⟨hz.keep hk, rfl, rfl⟩
theorem Vw.rings (h : Vw w p c L) : Calls Try.prog 69 #[.pointer p] w fun e w' => e = .returned (.agg (arr c)) ∧ w' = w.alloc (.cells (arr c) 77) := by
  rcases h with ⟨rb, u, s, rfl, h, h1⟩ | ⟨hz, rfl, rfl⟩
  · exact rings_ok w rb c u s h h1.not_zero
  · exact rings_zero w p hz
theorem Vw.run (h : Vw w p c L) (q : Nat) (h1 : 1 ≤ q) (h2 : q ≤ 31) : Run c q (L q) := by
  rcases h with ⟨rb, u, s, rfl, -, h⟩ | ⟨-, rfl, rfl⟩
  · exact (h.chain q (by omega)).run (by omega)
  · show cz q < 32; simp [cz]
theorem Vw.lt (h : Vw w p c L) (q t : Nat) (ht : t ∈ L q) : t < 16 := by
  rcases h with ⟨rb, u, s, rfl, -, h⟩ | ⟨-, rfl, rfl⟩
  · exact (h.thr q t ht).1
  · cases ht
theorem Vw.nod (h : Vw w p c L) (q : Nat) : (L q).Nodup := by
  rcases h with ⟨rb, u, s, rfl, -, h⟩ | ⟨-, rfl, rfl⟩
  · exact h.nod q
  · exact List.nodup_nil
/-- All of it, one by one. -/
theorem Vw.all (h : Vw w p c L) (n : Nat) (hn : 4 ≤ n) (W : World) (bx D : Nat) (hk : Kp w W []) (hbx : W.heap[bx]? = some (.cells #[.pointer p] 55 (0, 0))) (hD : D ≤ W.heap.size) :
    Seqs n Try.prog 81 #[.pointer (some ⟨bx, 0, none⟩)] (fun x : Nat × Nat => #[.int .i64 (x.1 : Nat), .int .i64 (x.2 : Nat)]) (Kc D) (seqs L 31) W :=
  all1_seqs n hn c L h.run h.lt h.nod p bx D W (fun _ hW' => ((h.keep hk).keep hW').rings) hbx hD
end

theorem cell_new1 {w : World} {o : Obj} {v : Value} {t : TypeId} : ((w.alloc o).alloc (.cells #[v] t)).heap[w.heap.size + 1]? = some (.cells #[v] t (0, 0)) := by
  have := heap_alloc_new (w.alloc o) (.cells #[v] t)
  simp only [World.size_alloc] at this
  exact this

set_option maxRecDepth 100000 in
set_option maxHeartbeats 4000000 in
theorem len_vw (w : World) (p : Option Addr) (c : Nat → Nat) (L : Nat → List Nat) (hV : Vw w p c L) (hlen : (seqs L 31).length ≤ 1000) : Calls Try.prog 61 #[.pointer p] w fun e w' => e = .returned (.int .i64 (seqs L 31).length) ∧ Kp w w' [] := by
  refine (callsIn_wide (n := 6)).1 ?_
  have h1 : 1 ≤ 6 := by decide
  have ca := all_any (w.alloc (.cells #[.int .i64 0] 3)) p
  have A1 := hid ((Kp.alloc w (.cells #[.int .i64 0] 3) []).trans (Kp.alloc _ (.cells #[.pointer p] 55) []))
  have HI := hid hV
  clear hV
  refine callsIn_of_wp_marks Try.func61 rfl trivial ?_ rfl
  simp only [Try.ntmps61, List.size_toArray, List.length_cons, List.length_nil, Nat.reduceAdd, Nat.reduceSub, Array.replicate_succ, Array.replicate_zero, List.push_toArray, List.append_toArray, List.nil_append, List.cons_append]
  refine wpIn_wide.2 ?_
  go_wp2_with (go_at_call 78; refine ca.mono ?_; rintro e w' ⟨rfl, rfl⟩)
  simp only [World.size_alloc] at *
  obtain ⟨W0, hW0⟩ : ∃ W0, (w.alloc (.cells #[.int .i64 0] 3)).alloc (.cells #[.pointer p] 55) = W0 := ⟨_, rfl⟩
  have hsz : W0.heap.size = w.heap.size + 2 := by rw [← hW0]; simp
  have hbx : W0.heap[w.heap.size + 1]? = some (.cells #[.pointer p] 55 (0, 0)) := by rw [← hW0]; exact cell_new1
  have hs0 : W0.heap[w.heap.size]? = some (.cells #[.int .i64 0] 3 (0, 0)) := by
    rw [← hW0, Below.heap_alloc _ _ _ (by simp)]; exact heap_alloc_new w _
  rw [hW0] at A1 ⊢
  clear ca
  refine (wpIn_wide (n := 6)).1 ?_
  refine range_seqs (K := Kc W0.heap.size) h1 (gf := 81) (lb := #[.pointer (some ⟨w.heap.size + 1, 0, none⟩)]) rfl (enters_of Try.func81 (by kernel_rfl) rfl)
    (HI.out.all 5 (by decide) W0 (w.heap.size + 1) W0.heap.size A1.out hbx (Nat.le_refl _)) Kc.trans (kc_put _) (Below.refl _ _) (fun _ => rfl)
    (fun pre W => W.heap[w.heap.size]? = some (.cells #[.int .i64 pre.length] 3 (0, 0)) ∧ Below w.heap.size w W)
    (fun _ _ _ => False)
    (OwnFrom.and (fun s A B row hs hg hr => cells_kept hs hg hr) (ownFrom_below (Nat.le_refl _) (by omega)))
    (fun _ _ _ _ _ hs _ _ => hs)
    ⟨hs0, A1.out.below⟩
    (fun x => { tmps := #[.pointer p, undef, .int .i64 0, .pointer (some ⟨w.heap.size, 0, none⟩), .pointer p, .func (.func 81) #[] #[.pointer (some ⟨w.heap.size + 1, 0, none⟩)], .int .i64 (x.1 : Nat), .int .i64 (x.2 : Nat), undef, undef, undef], defers := [] })
    ?assign ?body ?done ?stop
  case assign =>
    intro l x W K _ hK
    have HK := hid hK
    clear hK
    gi_wp2
    simp
    exact HK.out
  case body =>
    rintro l pre x W hpre ⟨hi1, hi2⟩
    have u1 := cell_one hi1
    have f1 := free_one hi1
    have H1 := hid hi1
    have H2 := hid hi2
    have hle : pre.length ≤ 1000 := by have := hpre.length_le; simp at this; omega
    clear hi1 hi2 hpre
    gi_wp2
    refine ⟨(KeepsOthers.setCell _ _ _).from _, Kc.of_kp (Kp.setCell _ ⟨w.heap.size, 0, none⟩ _) (by simp; omega), ?_, H2.out.setCell (p := ⟨w.heap.size, 0, none⟩) (Nat.le_refl _) _⟩
    have := set_one (x := .int .i64 ((pre.length : Int) + 1)) H1.out
    rw [List.length_append]
    simpa using this
  case done =>
    rintro D W hD ⟨hi1, hi2⟩ hK
    have u1 := cell_one hi1
    have f1 := free_one hi1
    have HI2 := hid hi2
    have HK := hid hK
    clear hK hi2 hi1
    gi_wp2
    go_wp2
    refine ⟨by simp, .inl ⟨_, _, rfl, run_takeDeferred HK.out, ⟨_, results_tmp rfl _ _ _, rfl, ?_⟩⟩⟩
    have hk := Kp.of_below HI2.out
    exact ⟨hk.os, hk.tape, hk.output, by have := hk.size; simp [World.putObj]; exact this, fun k hk' _ => (World.putObj_heap_other (by omega)).trans (hk.block k hk' (by simp))⟩
  case stop =>
    rintro D cc pre W _ _ hx _
    exact hx.elim
end Go.Proofs.Ytclbphnelfacfaa
