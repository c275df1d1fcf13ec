/- ServerBounds: what the calls of a tick do. -/
import Derived.Test.YtojcmnanapeooaaBd
namespace Go.Proofs.Ytojcmnanapeooaa
open Go.RowKit Go.Shelf

/-- The tick's call of Use is behind, or was left out. -/
structure Tu (w wr : World) (sb : Nat) (V : Value) (i : Nat) (b p : Int) (s : Sv) (u : Nat → Bool) (σ : Nat → Int) : Prop where
  kn : Kn w wr sb s
  ns : Ns wr w.heap.size V (fl u i)
  bi : Bi s (i + 1) u σ
  eb : s.bud = b
  ep : s.per = p
section
variable {w wr w' : World} {sb i : Nat} {V : Value} {b p : Int} {s : Sv} {u : Nat → Bool} {σ : Nat → Int}
theorem Tb.due (h : Tb w wr sb V i b p s u σ) : Calls Try.prog 17 #[.pointer (some ⟨sb, 0, none⟩), .int .i64 i] wr fun e w' => e = .returned (.int .i64 (dueN s i)) ∧ Tm w w' sb V i b p (dueS s i) u σ :=
  (h.kn.due' i).mono fun _ _ ⟨a, k, t⟩ => ⟨a, k, h.ns.keep t, h.bi.due, h.eb, h.ep⟩
theorem Tm.same (h : Tm w wr sb V i b p s u σ) (hk : Kp wr w' []) : Tm w w' sb V i b p s u σ := ⟨h.kn.same hk, h.ns.keep (Kt.of hk), h.bm, h.eb, h.ep⟩
theorem Tm.active (h : Tm w wr sb V i b p s u σ) : Calls Try.prog 18 #[.pointer (some ⟨sb, 0, none⟩)] wr fun e w' => e = .returned (.tuple #[.int .i64 s.since, .int .i64 s.used, .bool s.act]) ∧ Tm w w' sb V i b p s u σ :=
  h.kn.active.mono fun _ _ ⟨a, _, k⟩ => ⟨a, h.same k⟩
theorem Tm.high (h : Tm w wr sb V i b p s u σ) : Calls Try.prog 21 #[.pointer (some ⟨sb, 0, none⟩)] wr fun e w' => e = .returned (.bool (highB s)) ∧ Tm w w' sb V i b p s u σ :=
  h.kn.high.mono fun _ _ ⟨a, _, k⟩ => ⟨a, h.same k⟩
theorem Tm.stop (h : Tm w wr sb V i b p s u σ) (hM : (i : Int) + p ≤ 1099511627776) (hi : mayT i = true) : Calls Try.prog 16 #[.pointer (some ⟨sb, 0, none⟩), .int .i64 i] wr fun e w' => e = .returned (.int .i64 (stopE s i)) ∧ Tm w w' sb V i b p (stopS s i) u σ :=
  (h.kn.stop' i).mono fun _ _ ⟨a, k, t⟩ => ⟨a, k, h.ns.keep t, h.bm.stop (by rw [h.ep]; exact hM) i hi, (stop_bp (i : Int)).1.trans h.eb, (stop_bp (i : Int)).2.trans h.ep⟩
theorem Tm.start (h : Tm w wr sb V i b p s u σ) (ha : s.act = false) (hi : mayT i = true) : Calls Try.prog 14 #[.pointer (some ⟨sb, 0, none⟩), .int .i64 i] wr fun e w' => e = .returned (.int .i64 (startE s i)) ∧ Tm w w' sb V i b p (startS s i) u σ :=
  (h.kn.start' i).mono fun _ _ ⟨a, k, t⟩ => ⟨a, k, h.ns.keep t, h.bm.start hi ha, (start_bp s i).1.trans h.eb, (start_bp s i).2.trans h.ep⟩
theorem Tm.use (h : Tm w wr sb V i b p s u σ) (hM : (i : Int) + p ≤ 1099511627776) (ha : s.act = true) (hh : highB s = true) : Calls Try.prog 15 #[.pointer (some ⟨sb, 0, none⟩)] wr fun e w' => e = .returned (.tuple #[.bool (useB s), .int .i64 0]) ∧ Tu w w' sb V i b p (useS s) (updB u i true) (updI σ i s.since) :=
  h.kn.use'.mono fun _ _ ⟨a, k, t⟩ => ⟨by rw [a, show useE s = 0 by unfold useE; rw [ha, hh]; rfl], k, by rw [fl_congr (updB_lt u i true)]; exact h.ns.keep t, h.bm.used (by rw [h.ep]; exact hM) ha hh (updB_lt u i true) (updI_lt σ i _) (updB_at u i true) (updI_at σ i _), use_bp.1.trans h.eb, use_bp.2.trans h.ep⟩
theorem Tm.skip (h : Tm w wr sb V i b p s u σ) (hn : (s.act && highB s) = false) : Tu w wr sb V i b p s (updB u i false) (updI σ i 0) := by
  have hb := h.bm.skip hn (updB_lt u i false) (updI_lt σ i 0) (updB_at u i false)
  have e : useS s = s := by unfold useS; rw [hn]; rfl
  rw [e] at hb
  exact ⟨h.kn, by rw [fl_congr (updB_lt u i false)]; exact h.ns, hb, h.eb, h.ep⟩
theorem Tu.same (h : Tu w wr sb V i b p s u σ) (hk : Kp wr w' []) : Tu w w' sb V i b p s u σ := ⟨h.kn.same hk, h.ns.keep (Kt.of hk), h.bi, h.eb, h.ep⟩
theorem Tu.push (h : Tu w wr sb V i b p s u σ) (hG : wr.grownBy w' V.ownBlock) {V' : Value} {x : Int} (hx : x = if u i then 1 else 0) (hN : Ns w' w.heap.size V' (fl u i ++ [x])) : Tb w w' sb V' (i + 1) b p s u σ :=
  ⟨h.kn.grown h.ns (Nat.le_refl _) hG, by rw [hx] at hN; exact hN, h.bi, h.eb, h.ep⟩
end
theorem tb_new {w w' : World} {sb : Nat} {b p m : Int} (h : Kn w w' sb (newS b p m)) (hn : mayN b p m = true) : Tb w w' sb (.slice none 0 0) 0 b p (newS b p m) (fun _ => false) (fun _ => 0) :=
  ⟨h, Ns.nil _ _, bi_new hn _ _, rfl, rfl⟩
end Go.Proofs.Ytojcmnanapeooaa
