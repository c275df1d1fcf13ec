/- One side; two sides, apart. -/
import Derived.Test.YtjggpchjfglgcaaSt
import Derived.Test.YtjggpchjfglgcaaKn
import Derived.Test.YtjggpchjfglgcaaArgs
namespace Go.Proofs.Ytjggpchjfglgcaa
open Go.RowKit Go.Shelf Go.Lib
attribute [local go_sem] Oper.semAt_some

/-- One side, made behind w0. -/
def Oc (w0 W : World) (cb rb : Nat) : Prop := ∃ M, Pa W cb rb M ∧ w0.heap.size ≤ cb ∧ w0.heap.size ≤ rb ∧ Kp w0 W []
section
variable {w0 W W' : World} {cb rb : Nat}
theorem Oc.kp (h : Oc w0 W cb rb) : Kp w0 W [] := by
  obtain ⟨M, -, -, -, h⟩ := h
  exact h
theorem Oc.same (h : Oc w0 W cb rb) (hk : Kp W W' []) : Oc w0 W' cb rb := by
  obtain ⟨M, h1, h2, h3, h4⟩ := h
  exact ⟨M, h1.same hk, h2, h3, h4.trans hk⟩
theorem Oc.step (h : Oc w0 W cb rb) (s : Stp) : Calls Try.prog 9 #[.pointer (some ⟨cb, 0, none⟩), .pointer (some ⟨rb, 0, none⟩), .agg #[.int .i64 s.k, .bool s.on, .int .i64 s.x, .int .i64 s.y]] W fun e w' => ∃ cb', e = .returned (.tuple #[.pointer (some ⟨cb', 0, none⟩), .pointer (some ⟨rb, 0, none⟩), .bool true]) ∧ Oc w0 w' cb' rb := by
  obtain ⟨M, HP, h2, h3, h4⟩ := h
  refine (do_any W cb rb M s.k s.on s.x s.y HP).mono ?_
  rintro e w' ⟨cb', rfl, h1, h5, hk⟩
  refine ⟨cb', rfl, _, h1, ?_, h3, h4.past hk (fun x hx hl => by simp at hx; omega)⟩
  rcases h5 with rfl | q
  · exact h2
  · have := h4.size; omega
theorem Oc.stands (h : Oc w0 W cb rb) (leave : Int) : Calls Try.prog 10 #[.pointer (some ⟨cb, 0, none⟩), .pointer (some ⟨rb, 0, none⟩), .int .i64 leave] W fun e w' => e = .returned (.bool true) ∧ Kp W w' [] := by
  obtain ⟨M, HP, -⟩ := h
  exact stands_any W cb rb M leave HP
theorem Oc.new {w w1 w2 w3 : World} (h1 : Cc w1 cb newC) (f1 : w.heap.size ≤ cb) (k1 : Kp w w1 []) (k2 : Kp w1 w2 []) (h2 : Rq w3 rb newC) (f2 : w2.heap.size ≤ rb) (k3 : Kp w2 w3 []) : Oc w w3 cb rb := by
  have := k1.size
  have := k2.size
  exact ⟨newC, ⟨h1.same (k2.trans k3), h2, by decide⟩, f1, by omega, k1.trans (k2.trans k3)⟩
/-- Two sides, apart. -/
structure O2 (w0 W : World) (cb rb cc rc : Nat) : Prop where
  a : Oc w0 W cb rb
  b : Oc w0 W cc rc
  n1 : cb ≠ cc
  n2 : cb ≠ rc
  n3 : rb ≠ cc
  n4 : rb ≠ rc
variable {cc rc : Nat}
theorem O2.same (h : O2 w0 W cb rb cc rc) (hk : Kp W W' []) : O2 w0 W' cb rb cc rc := ⟨h.a.same hk, h.b.same hk, h.n1, h.n2, h.n3, h.n4⟩
theorem O2.swap (h : O2 w0 W cb rb cc rc) : O2 w0 W cc rc cb rb := ⟨h.b, h.a, Ne.symm h.n1, Ne.symm h.n3, Ne.symm h.n2, Ne.symm h.n4⟩
theorem O2.step (h : O2 w0 W cb rb cc rc) (s : Stp) : Calls Try.prog 9 #[.pointer (some ⟨cb, 0, none⟩), .pointer (some ⟨rb, 0, none⟩), .agg #[.int .i64 s.k, .bool s.on, .int .i64 s.x, .int .i64 s.y]] W fun e w' => ∃ cb', e = .returned (.tuple #[.pointer (some ⟨cb', 0, none⟩), .pointer (some ⟨rb, 0, none⟩), .bool true]) ∧ O2 w0 w' cb' rb cc rc := by
  obtain ⟨⟨M, HP, h2, h3, h4⟩, ⟨U, HU, g2, g3, g4⟩, n1, n2, n3, n4⟩ := h
  refine (do_any W cb rb M s.k s.on s.x s.y HP).mono ?_
  rintro e w' ⟨cb', rfl, h1, h5, hk⟩
  have hz := h4.size
  have l1 := Cw.lt HU.c.cw
  have l2 := HU.r.lt
  have kk : Kp w0 w' [] := h4.past hk (fun x hx hl => by simp at hx; omega)
  refine ⟨cb', rfl, ⟨_, h1, ?_, h3, kk⟩, ⟨U, ⟨Cw.keep HU.c hk (by simp; exact ⟨Ne.symm n1, Ne.symm n3⟩), HU.r.keep hk (fun k hm => ?_), HU.l⟩, g2, g3, kk⟩, ?_, ?_, n3, n4⟩
  · rcases h5 with rfl | q
    · exact h2
    · omega
  · simp only [List.mem_cons, List.not_mem_nil, or_false] at hm
    rcases hm with rfl | rfl
    · exact ⟨n2, fun c => HP.c.not30 c⟩
    · exact ⟨n4, fun c hc => by
      obtain ⟨V, hr⟩ := HP.r
      have := hr.hh.symm.trans hc
      simp at this⟩
  · rcases h5 with rfl | q
    · exact n1
    · omega
  · rcases h5 with rfl | q
    · exact n2
    · omega
theorem O2.new {w w1 w2 w3 w4 : World} (h1 : Cc w1 w.heap.size newC) (k1 : Kp w w1 []) (h2 : Cc w2 w1.heap.size newC) (k2 : Kp w1 w2 []) (h3 : Rq w3 w2.heap.size newC) (k3 : Kp w2 w3 []) (h4 : Rq w4 w3.heap.size newC) (k4 : Kp w3 w4 []) : O2 w w4 w.heap.size w2.heap.size w1.heap.size w3.heap.size := by
  have s1 := Cw.lt h1.cw
  have s2 := Cw.lt h2.cw
  have s3 := h3.lt
  have s4 := h4.lt
  have kk := k1.trans (k2.trans (k3.trans k4))
  exact ⟨⟨newC, ⟨h1.same (k2.trans (k3.trans k4)), h3.same k4, by decide⟩, Nat.le_refl _, by omega, kk⟩, ⟨newC, ⟨h2.same (k3.trans k4), h4, by decide⟩, by omega, by omega, kk⟩, by omega, by omega, by omega, by omega⟩
theorem O2.sames (h : O2 w0 W cb rb cc rc) : ∃ B, Calls Try.prog 12 #[.pointer (some ⟨cb, 0, none⟩), .pointer (some ⟨cc, 0, none⟩)] W (fun e w' => e = .returned (.bool B) ∧ Kp W w' []) ∧ ∀ W', Kp W W' [] → Calls Try.prog 13 #[.pointer (some ⟨rb, 0, none⟩), .pointer (some ⟨rc, 0, none⟩)] W' (fun e w' => e = .returned (.bool B) ∧ Kp W' w' []) := by
  obtain ⟨⟨M, HP, -⟩, ⟨U, HU, -⟩, -⟩ := h
  refine ⟨sameV M U, ?_, fun W' hW => ?_⟩
  · have := same_any HP.c.cv HU.c.cv HP.l
    simpa using this
  · exact rsame_any (HP.r.same hW) (HU.r.same hW) HP.l HU.l
theorem O2.self (h : O2 w0 W cb rb cc rc) : Calls Try.prog 12 #[.pointer (some ⟨cb, 0, none⟩), .pointer (some ⟨cb, 0, none⟩)] W (fun e w' => e = .returned (.bool true) ∧ Kp W w' []) := by
  obtain ⟨⟨M, HP, -⟩, -⟩ := h
  have := same_any HP.c.cv HP.c.cv HP.l
  rw [sameV_self] at this
  simpa using this
end
end Go.Proofs.Ytjggpchjfglgcaa
