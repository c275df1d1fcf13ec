/- do, stands. -/
import Derived.Test.YtdkdjbicnaaafaaKnown
import Derived.Test.YtdkdjbicnaaafaaRef
import Derived.Deep.RegionHeldLaw
namespace Go.Proofs.Ytdkdjbicnaaafaa
open Go.RowKit

/-- Both clocks show the same. -/
structure Bo (w : World) (b c : Nat) (x y : Int) : Prop where
  ck : Ck w b x y
  rk : Rk w c x y
  mx : may x
  my : may y
theorem Bo.keep {w w' : World} {b c : Nat} {x y : Int} (h : Bo w b c x y) {rows : List Nat} (hk : Kp w w' rows) (h1 : b ∉ rows) (h2 : c ∉ rows) : Bo w' b c x y := ⟨h.ck.keep hk h1, h.rk.keep hk h2, h.mx, h.my⟩

def i64 (n : Int) : Prop := -9223372036854775808 ≤ n ∧ n ≤ 9223372036854775807

/-- What a step leaves. -/
def Did (w w' : World) (e : Ending) (b c : Nat) : Prop :=
  ∃ b' x' y', e = .returned (.tuple #[.pointer (some ⟨b', 0, none⟩), .pointer (some ⟨c, 0, none⟩), .bool true]) ∧ Bo w' b' c x' y' ∧ Kp w w' [b, c] ∧ (b' = b ∨ w.heap.size ≤ b')

theorem results_tmp3 {fn : Func} {t u v : Tmp} (h : fn.results = #[.tmp t, .tmp u, .tmp v]) (tmps : Array Value) (P : Program) (w : World) :
    (results fn tmps).run P w = .ok (.tuple #[tmps.getD t undef, tmps.getD u undef, tmps.getD v undef]) w := by
  simp [results, h, go_sem]

theorem cell3 (w : World) (k p t : Value) : (w.alloc (.cells #[k, p, t] 35)).cell? ⟨w.heap.size, 0, none⟩ = some k ∧ (w.alloc (.cells #[k, p, t] 35)).cell? ⟨w.heap.size, 1, none⟩ = some p ∧ (w.alloc (.cells #[k, p, t] 35)).cell? ⟨w.heap.size, 2, none⟩ = some t := by
  have h := heap_alloc_new w (.cells #[k, p, t] 35)
  exact ⟨by rw [cell_of_row _ _ _ _ _ _ h]; rfl, by rw [cell_of_row _ _ _ _ _ _ h]; rfl, by rw [cell_of_row _ _ _ _ _ _ h]; rfl⟩

set_option maxRecDepth 100000 in
set_option maxHeartbeats 2000000 in
theorem do_any (w : World) (b c : Nat) (x y : Int) (k cl n : Int) (h : Bo w b c x y) : Calls Try.prog 11 #[.pointer (some ⟨b, 0, none⟩), .pointer (some ⟨c, 0, none⟩), .agg #[.int .i64 k, .int .i64 cl, .int .i64 n]] w fun e w' => Did w w' e b c := by
  obtain ⟨W0, hW0⟩ : ∃ W0, w.alloc (.cells #[.int .i64 k, .int .i64 cl, .int .i64 n] 35) = W0 := ⟨_, rfl⟩
  obtain ⟨c0, c1, c2⟩ := cell3 w (.int .i64 k) (.int .i64 cl) (.int .i64 n)
  have kk : Kp w W0 [] := by rw [← hW0]; exact Kp.alloc _ _ _
  have H := hid (h.keep kk (by simp) (by simp))
  have NE := hid (ck_rk h.ck h.rk)
  have NE2 := hid (ck_rk h.ck h.rk).symm
  have K0 := hid kk
  have hrb : b ≠ w.heap.size := by have := h.ck.lt; omega
  have hqb : c ≠ w.heap.size := by have := h.rk.lt; omega
  have LT := hid (And.intro h.ck.lt h.rk.lt)
  rw [hW0] at c0 c1 c2
  have C0 := hid (And.intro c0 (And.intro c1 c2))
  have CC := hid (fun (w1 : World) (hk : Kp W0 w1 [b, c]) => (show w1.cell? ⟨w.heap.size, 0, none⟩ = some (.int .i64 k) ∧ w1.cell? ⟨w.heap.size, 1, none⟩ = some (.int .i64 cl) ∧ w1.cell? ⟨w.heap.size, 2, none⟩ = some (.int .i64 n) from ⟨hk.cell C0.out.1 (by simp; omega), hk.cell C0.out.2.1 (by simp; omega), hk.cell C0.out.2.2 (by simp; omega)⟩))
  have ka : ∀ (A B : World), Kp A B [b] → Kp A B [b, c] := fun _ _ h => h.mono (by intro x hx _; simp at hx; simp [hx])
  have kb : ∀ (A B : World), Kp A B [c] → Kp A B [b, c] := fun _ _ h => h.mono (by intro x hx _; simp at hx; simp [hx])
  have KA := hid ka
  have KB := hid kb
  clear h kk ka kb
  by_cases h1 : k = 1
  · have kt : (k == 1) = true := by simp [h1]
    clear h1 hrb hqb
    go_enter Try.func11, Try.ntmps11
    go_wp2_with fail
    refine (tick_any _ b x y H.out.ck H.out.mx H.out.my).mono ?_
    rintro e w1 ⟨rfl, t1, k1⟩
    have T1 := hid t1
    have K1 := hid k1
    have R1 := hid (H.out.rk.keep k1 (by simpa using NE2.out))
    clear t1 k1
    go_wp2_with (go_at_call 9; go_in)
    refine (rtick_any _ c x y R1.out H.out.mx H.out.my).mono ?_
    rintro e w2 ⟨rfl, r2, k2⟩
    have R2 := hid r2
    have T2 := hid (T1.out.keep k2 (by simpa using NE.out))
    have K2 := hid ((K0.out.nil (r := [b, c])).trans ((KA.out _ _ K1.out).trans (KB.out _ _ k2)))
    clear r2 k2
    go_wp2_with (go_at_call 9; go_in)
    refine bodyPost_ret (results_tmp3 rfl _ _ _) rfl ?_
    exact ⟨b, _, _, by simp, ⟨T2.out, R2.out, tk_may H.out.mx, tk_may H.out.my⟩, K2.out, .inl rfl⟩
  have e1 : (k == 1) = false := by simp [h1]
  by_cases h2 : k = 2
  · have kt : (k == 2) = true := by simp [h2]
    clear h1 h2
    go_enter Try.func11, Try.ntmps11
    go_wp2_with fail
    go_region_held_law (fun w1 => w1.cell? ⟨w.heap.size, 0, none⟩ = some (.int .i64 k) ∧ w1.cell? ⟨w.heap.size, 1, none⟩ = some (.int .i64 cl) ∧ w1.cell? ⟨w.heap.size, 2, none⟩ = some (.int .i64 n))
      (first
        | exact CC.out _ (Kp.drew _ _)
        | exact CC.out _ ((Kp.drew _ _).trans (KA.out _ _ hK1))
        | exact CC.out _ (((Kp.drew _ _).trans (KA.out _ _ hK1)).trans (KB.out _ _ hK2)))
      (first
        | (go_at_call 24; have _hh := hK1; refine (rset_any _ c x y cl n ((H.out.rk.keep (Kp.drew _ []) (by simp)).keep hK1 (by simpa using NE2.out))).mono ?_; rintro e z2 ⟨rfl, hQ2, hK2⟩)
        | (go_at_call 9; refine (num_any _ _).mono ?_; rintro e z3 ⟨rfl, rfl⟩)
        | (go_at_call 20; refine (set_any _ b x y cl n (H.out.ck.keep (Kp.drew _ []) (by simp))).mono ?_; rintro e z1 ⟨rfl, hR1, hK1⟩))
    have RZ := hid (hR1.keep hK2 (by simpa using NE.out))
    have QZ := hid hQ2
    have KZ := hid (((K0.out.nil (r := [b, c])).trans (Kp.drew _ _)).trans ((KA.out _ _ hK1).trans (KB.out _ _ hK2)))
    clear hR1 hQ2 hK1 hK2
    obtain ⟨E, hE⟩ : ∃ E, setE cl n = E := ⟨_, rfl⟩
    rw [hE]
    clear hE
    go_wp2_with (go_at_call 9; go_in)
    refine bodyPost_ret (results_tmp3 rfl _ _ _) rfl ?_
    exact ⟨b, _, _, by simp, ⟨RZ.out, QZ.out, setX_may H.out.mx, H.out.my⟩, KZ.out, .inl rfl⟩
  have e2 : (k == 2) = false := by simp [h2]
  by_cases h3 : k = 3
  · have kt : (k == 3) = true := by simp [h3]
    clear h1 h2 h3
    go_enter Try.func11, Try.ntmps11
    go_wp2_with fail
    refine (copy_ok _ b x y H.out.ck).mono ?_
    rintro e w1 ⟨rfl, rfl⟩
    have O1 := hid (show Ck _ W0.heap.size x y from heap_alloc_new W0 (.cells #[.int .i64 x, .int .i64 y, .bool true] 51))
    have k1 := Kp.alloc W0 (.cells #[.int .i64 x, .int .i64 y, .bool true] 51) []
    have K1 := hid (K0.out.trans k1)
    have B1 := hid (H.out.keep k1 (by simp) (by simp))
    have hlt := H.out.ck.lt
    have hlt2 := H.out.rk.lt
    have hsz := K0.out.size
    obtain ⟨w1, hw1⟩ : ∃ w1, W0.alloc (.cells #[.int .i64 x, .int .i64 y, .bool true] 51) = w1 := ⟨_, rfl⟩
    obtain ⟨o, ho⟩ : ∃ o, W0.heap.size = o := ⟨_, rfl⟩
    rw [hw1] at K1 B1 O1 ⊢
    have NB := hid (show w.heap.size ≤ o ∧ o ≠ b ∧ o ≠ c by omega)
    rw [ho] at O1 ⊢
    clear hw1 ho k1 hlt hlt2 hsz
    go_wp2_with fail
    refine (same_any _ o b x y x y O1.out B1.out.ck).mono ?_
    rintro e w2 ⟨rfl, k2⟩
    rw [show (decide (x = x) && decide (y = y)) = true by simp]
    have O2 := hid (O1.out.keep k2 (by simp))
    have B2 := hid (B1.out.keep k2 (by simp) (by simp))
    have K2 := hid (K1.out.trans k2)
    clear k2 O1 B1 K1
    go_wp2_with fail
    refine (tick_any _ b x y B2.out.ck H.out.mx H.out.my).mono ?_
    rintro e w3 ⟨rfl, t3, k3⟩
    have T3 := hid t3
    have O3 := hid (O2.out.keep k3 (by simpa using NB.out.2.1))
    have R3 := hid (B2.out.rk.keep k3 (by simpa using NE2.out))
    have K3 := hid ((K2.out.nil (r := [b, c])).trans (KA.out _ _ k3))
    clear t3 k3 O2 B2 K2
    go_wp2_with fail
    refine (set_any _ b (tk x) (tk y) 0 77 T3.out).mono ?_
    rintro e w4 ⟨rfl, -, k4⟩
    have O4 := hid (O3.out.keep k4 (by simpa using NB.out.2.1))
    have R4 := hid (R3.out.keep k4 (by simpa using NE2.out))
    have K4 := hid (K3.out.trans (KA.out _ _ k4))
    clear k4 O3 R3 K3 T3
    go_wp2_with fail
    refine bodyPost_ret (results_tmp3 rfl _ _ _) rfl ?_
    exact ⟨o, _, _, by simp, ⟨O4.out, R4.out, H.out.mx, H.out.my⟩, K4.out, .inr NB.out.1⟩
  have e3 : (k == 3) = false := by simp [h3]
  clear h1 h2 h3
  go_enter Try.func11, Try.ntmps11
  go_wp2_with fail
  refine bodyPost_ret (results_tmp3 rfl _ _ _) rfl ?_
  exact ⟨b, _, _, by simp, H.out, K0.out.nil, .inl rfl⟩
end Go.Proofs.Ytdkdjbicnaaafaa
