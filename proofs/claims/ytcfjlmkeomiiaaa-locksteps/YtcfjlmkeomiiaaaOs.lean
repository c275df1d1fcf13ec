/- One side alone; two sides. -/
import Derived.Test.YtcfjlmkeomiiaaaDo
namespace Go.Proofs.Ytcfjlmkeomiiaaa
open Go.RowKit Go.Shelf Go.Lib Go.Sort Go.Maps
attribute [local go_sem] Oper.semAt_some

/-- One side, made behind w0. -/
def Sid (w0 W : World) (lb rb : Nat) : Prop := ∃ R M, Pa W lb rb R M ∧ Lok M ∧ (∀ k ∈ R, w0.heap.size ≤ k) ∧ Kp w0 W []
variable {w0 W W' : World} {lb rb lc rc : Nat}
theorem Sid.kp (h : Sid w0 W lb rb) : Kp w0 W [] := by
  obtain ⟨R, M, -, -, -, h⟩ := h
  exact h
theorem Sid.same (h : Sid w0 W lb rb) (hk : Kp W W' []) : Sid w0 W' lb rb := by
  obtain ⟨R, M, h1, h2, h3, h4⟩ := h
  exact ⟨R, M, h1.same hk, h2, h3, h4.trans hk⟩
theorem Sid.step (h : Sid w0 W lb rb) (k t p : Int) (ht : i64 t) : Calls Try.prog 9 #[.pointer (some ⟨lb, 0, none⟩), .pointer (some ⟨rb, 0, none⟩), .agg #[.int .i64 k, .int .i64 t, .int .i64 p]] W fun e w' => ∃ lb', e = .returned (.tuple #[.pointer (some ⟨lb', 0, none⟩), .pointer (some ⟨rb, 0, none⟩), .bool true]) ∧ Sid w0 w' lb' rb := by
  obtain ⟨R, M, HP, HK, h3, h4⟩ := h
  refine (do_any W lb rb R M k t p HP HK ht).mono ?_
  rintro e w' ⟨lb', R', rfl, h1, h2, hk⟩
  refine ⟨lb', rfl, R', _, h1, HK.step k t p, fun x hx => ?_, h4.past hk (fun x hx hl => by have := h3 x hx; omega)⟩
  rcases h2 x hx with q | q
  · exact h3 x q
  · have := h4.size; omega
theorem pa_new {w w1 w2 : World} {R1 : List Nat} {a b : Nat} (h1 : Lc w1 lb R1 newL) (f1 : ∀ k ∈ R1, w.heap.size ≤ k) (k1 : Kp w w1 []) (h2 : Rk w2 rb a b newL) (f2 : w1.heap.size ≤ rb) (f3 : w1.heap.size ≤ a) (f4 : w1.heap.size ≤ b) (k2 : Kp w1 w2 []) : Pa w2 lb rb (R1 ++ [rb, a, b]) newL ∧ (∀ k ∈ R1 ++ [rb, a, b], w.heap.size ≤ k) := by
  have := k1.size
  refine ⟨⟨R1, a, b, rfl, h1.same k2, h2, fun k hk hm => ?_⟩, fun k hk => ?_⟩
  · have := h1.lt _ hm
    simp at hk
    rcases hk with rfl | rfl | rfl <;> omega
  · simp at hk
    rcases hk with hk | rfl | rfl | rfl
    · exact f1 k hk
    · omega
    · omega
    · omega
/-- Two sides. -/
def Tw (w0 W : World) (lb rb lc rc : Nat) : Prop := ∃ R M R' M', Pa W lb rb R M ∧ Lok M ∧ (∀ k ∈ R, w0.heap.size ≤ k) ∧ Pa W lc rc R' M' ∧ Lok M' ∧ (∀ k ∈ R', w0.heap.size ≤ k) ∧ (∀ k ∈ R, k ∉ R') ∧ Kp w0 W []
theorem Tw.swap (h : Tw w0 W lb rb lc rc) : Tw w0 W lc rc lb rb := by
  obtain ⟨R, M, R', M', h1, h2, h3, h4, h5, h6, h7, h8⟩ := h
  exact ⟨R', M', R, M, h4, h5, h6, h1, h2, h3, fun k hk hm => h7 k hm hk, h8⟩
theorem Tw.kp (h : Tw w0 W lb rb lc rc) : Kp w0 W [] := by
  obtain ⟨R, M, R', M', h1, h2, h3, h4, h5, h6, h7, h8⟩ := h
  exact h8
theorem Tw.step (h : Tw w0 W lb rb lc rc) (k t p : Int) (ht : i64 t) : Calls Try.prog 9 #[.pointer (some ⟨lb, 0, none⟩), .pointer (some ⟨rb, 0, none⟩), .agg #[.int .i64 k, .int .i64 t, .int .i64 p]] W fun e w' => ∃ lb', e = .returned (.tuple #[.pointer (some ⟨lb', 0, none⟩), .pointer (some ⟨rb, 0, none⟩), .bool true]) ∧ Tw w0 w' lb' rb lc rc := by
  obtain ⟨R, M, R', M', HP, HK, h3, h4, h5, h6, h7, h8⟩ := h
  refine (do_any W lb rb R M k t p HP HK ht).mono ?_
  rintro e w' ⟨lb', R1, rfl, h1, h2, hk⟩
  refine ⟨lb', rfl, R1, _, R', M', h1, HK.step k t p, fun x hx => ?_, h4.keep hk (fun x hx hm => h7 x hm hx) HP.kind, h5, h6, fun x hx hm => ?_, h8.past hk (fun x hx hl => by have := h3 x hx; omega)⟩
  · rcases h2 x hx with q | q
    · exact h3 x q
    · have := h8.size; omega
  · rcases h2 x hx with q | q
    · exact h7 x q hm
    · have := h4.lt x hm; omega
/-- What LockSame asks at the end. -/
theorem Tw.end (h : Tw w0 W lb rb lc rc) : ∃ B, (∀ z, Kp W z [] → Calls Try.prog 12 #[.pointer (some ⟨lb, 0, none⟩), .pointer (some ⟨lc, 0, none⟩)] z fun e w' => e = .returned (.bool B) ∧ Kp z w' []) ∧ (∀ z, Kp W z [] → Calls Try.prog 13 #[.pointer (some ⟨rb, 0, none⟩), .pointer (some ⟨rc, 0, none⟩)] z fun e w' => e = .returned (.bool B) ∧ Kp z w' []) ∧ (∀ z, Kp W z [] → Calls Try.prog 12 #[.pointer (some ⟨lb, 0, none⟩), .pointer (some ⟨lb, 0, none⟩)] z fun e w' => e = .returned (.bool true) ∧ Kp z w' []) := by
  obtain ⟨R, M, R', M', ⟨R1, a, b, -, p1, p2, -⟩, HK, h3, ⟨R2, c, d, -, q1, q2, -⟩, h5, h6, h7, h8⟩ := h
  refine ⟨sameB M M', fun z hk => lsame z lb lc R1 R2 M M' (p1.same hk) (q1.same hk), fun z hk => rsame z rb a b rc c d M M' (p2.same hk) (q2.same hk) HK.mid.rk HK.mid.qk h5.mid.rk h5.mid.qk, fun z hk => ?_⟩
  have := lsame z lb lb R1 R1 M M (p1.same hk) (p1.same hk)
  rw [same_refl M] at this
  exact this
end Go.Proofs.Ytcfjlmkeomiiaaa
