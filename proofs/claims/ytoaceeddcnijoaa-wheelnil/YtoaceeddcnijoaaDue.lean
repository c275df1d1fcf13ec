/- New, Due. -/
import Derived.Test.YtoaceeddcnijoaaCalls
namespace Go.Proofs.Ytoaceeddcnijoaa
open Go.RowKit Go.Shelf Go.Lib Go.Sort

/-- A list of numbers as a slice. -/
def icells (l : List Int) : List Value := l.map fun x => .int .i64 x
def Ns (w : World) (base : Nat) (v : Value) (l : List Int) : Prop := w.ownsRow base 3 1 v l.length (icells l)
theorem Ns.nil (w : World) (base : Nat) : Ns w base (.slice none 0 0) [] := ⟨rfl, .inl ⟨rfl, rfl⟩⟩
theorem Ns.keep {w w' : World} {base : Nat} {v : Value} {l : List Int} (h : Ns w base v l) (hk : Kp w w' []) : Ns w' base v l := owns_kp h hk (by simp)
theorem Ns.slice {w : World} {base : Nat} {v : Value} {l : List Int} (h : Ns w base v l) : ∃ ao cap, v = .slice ao l.length cap := owns_shape h

theorem Ns.push {w : World} {base : Nat} {v : Value} {l : List Int} {x : Int} (h : w.ownsRow base 3 1 v (l.length + 1) (icells l ++ [.int .i64 x])) : Ns w base v (l ++ [x]) := by
  unfold Ns icells
  simpa [icells] using h
theorem Try.infoI : (Try.prog.info? 3).map (fun i => (i.zero, i.size, i.bytes)) = some (some (.int .i64 0), 1, 8) := by kernel_rfl
theorem wpList_pushI {ops : Array Oper} {rest : List Oper} {o : Oper} {a : Act} {W : World} {Q : Exit → Act → World → Prop} (hgd : o.guard = none) (s x : Operand)
    (ho : o.op = .call { callee := .builtin .append, args := #[s, x], argTypes := #[40, 40] }) (base : Nat) (V : Value) (l : List Int) (h : Int) (g : Nat)
    (hs : a.eval s = V) (hown : Ns W base V l) (hx : a.eval x = .slice (some ⟨g, 0, none⟩) 1 1) (hc : W.cell? ⟨g, 0, none⟩ = some (.int .i64 h)) (hm : l.length ≤ 100000) (hb : base ≤ W.heap.size)
    (K : ∀ v' w', Ns w' base v' (l ++ [h]) → W.grownBy w' V.ownBlock → wpList Try.prog ops Q rest (a.put o.dst v') w') :
    wpList Try.prog ops Q (o :: rest) a W := by
  obtain ⟨i0, hi, hz0, hz1, hz2⟩ := info_parts Try.infoI
  exact wpList_append_own _ hgd s x 40 ho base 3 i0 (.int .i64 0) 1 8 Try.underlying40 hi hz0 hz1 hz2 rfl (by decide) V l.length (icells l) hs hown ⟨g, 0, none⟩ 1 1 [.int .i64 h] hx rfl (by
      intro j u hu
      match j with
      | 0 =>
        simp at hu
        subst hu
        rw [Addr.add_lit]
        exact hc
      | j + 1 => simp at hu) (by simp; rfl) (by unfold maxLen; omega) (by omega) hb (fun v' w' h1 h2 _ => K v' w' (Ns.push h1) h2)

theorem grown_own {W w' : World} {base e s n : Nat} {V : Value} {xs : List Value} (hN : W.ownsRow base e s V n xs) (hG : W.grownBy w' V.ownBlock) {w : World} (hk : Kp w W []) (hb : w.heap.size ≤ base) : Kp w w' [] :=
  hk.past (Kp.ofGrown (rows := V.ownBlock.toList) hG (by intro g hg; simp [hg])) (by
    intro g hg hl
    simp at hg
    have := (owns_block hN hg).1
    omega)
set_option maxRecDepth 100000 in
set_option maxHeartbeats 2000000 in
theorem due_any (w : World) (wb : Nat) (F : Nat → Value) (D : Nat → List Dl) (now : Int) (h : Wh w wb F D) (hl : (cat D 64).length ≤ 100000) :
    Calls Try.prog 13 #[.pointer (some ⟨wb, 0, none⟩), .int .i64 now] w fun e w' => (∃ v, e = .returned v ∧ ∃ Z, St ((cat D 64).filter fun x => decide (x.2 ≤ now)) Z ∧ Ns w' w.heap.size v (Z.map (·.1))) ∧ (∃ F', Wh w' wb F' (fun s => rest (fun x => decide (x.2 ≤ now)) (D s)) ∧ ∀ s, s < 64 → (F' s).ownBlock = (F s).ownBlock) ∧ Kp w w' (rows F wb) := by
  have H := hid h
  have HL := hid hl
  clear h hl
  go_enter Try.func13, Try.ntmps13
  go_wp2_with fail
  have k1 := Kp.alloc w (.cells #[.int .i64 now] 2) []
  refine (zero_no _ wb F D (H.out.same k1)).mono ?_
  rintro e w1 ⟨rfl, hw1⟩
  have HK1 := hid (show Kp w w1 [] by rw [hw1]; exact k1)
  have HC := hid (show w1.cell? ⟨w.heap.size, 0, none⟩ = some (.int .i64 now) by rw [hw1]; simp)
  clear k1 hw1
  go_wp2_with fail
  refine (take_any w1 wb F D 30 w.heap.size now _ (H.out.same HK1.out) (prd_due _ _) HC.out (fun hm => by have := H.out.rowslt hm; omega) HL.out).mono ?_
  rintro e w2 ⟨v, F', Z, rfl, hZ, hd, hW, hob, hk⟩
  have HOB := hid hob
  clear hob
  obtain ⟨ao, cap, hv⟩ := hd.slice
  obtain ⟨N, hN⟩ : ∃ N, Z.length = N := ⟨_, rfl⟩
  have hNl : N ≤ 100000 := by
    rw [← hN, hZ.length]
    have := List.length_filter_le (fun x : Dl => decide (x.2 ≤ now)) (cat D 64)
    have := HL.out
    omega
  rw [hN] at hv
  subst hv
  have HN := hid hN
  have HZ := hid hZ
  have HD := hid hd
  have HW := hid hW
  have HK := hid (HK1.out.nil.trans hk)
  clear hZ hd hW hk hN
  go_wp2_with fail
  go_loopw [5, 14] (fun vd vi wr => ∃ (i m cap : Nat) (ao : Option Addr), i ≤ N ∧ vi = .int .i64 i ∧ vd = .slice ao m cap ∧ Hid (Ns wr w2.heap.size (.slice ao m cap) ((Z.take i).map (·.1)) ∧ Kp w2 wr [])) (fun _ vi _ => N - (intOf vi).toNat)
  case atStart => exact ⟨0, 0, 0, none, by omega, rfl, rfl, hid ⟨by simpa using Ns.nil _ _, Kp.refl _ _⟩⟩
  case round =>
    obtain ⟨i, m1, cap1, ao1, hi, rfl, rfl, hR⟩ := hrel
    by_cases hlt : i < N
    · have hltI : (i : Int) < N := by omega
      have hil : i < Z.length := by have := HN.out; omega
      obtain ⟨x1, x2, hx⟩ : ∃ x1 x2, Z[i]! = (x1, x2) := ⟨Z[i]!.1, Z[i]!.2, rfl⟩
      obtain ⟨gg, rfl, c1, c2, -, -⟩ := (HD.out.keep hR.out.2).at hil hx
      have hlg : gg < wr.heap.size := World.block_lt_of_cell? wr _ c1
      have HX := hid hx
      have kk := (Kp.alloc wr (.cells #[.int .i64 x1, .int .i64 x2] 69) []).trans (Kp.alloc (wr.alloc (.cells #[.int .i64 x1, .int .i64 x2] 69)) (.cells #[.int .i64 x1] 3) [])
      have R1 := hid (And.intro (hR.out.1.keep kk) (hR.out.2.trans kk))
      clear kk
      have HB := hid (show ((Z.take i).map (·.1)).length ≤ 100000 by simp; omega)
      clear hx hR
      go_wp2_with (refine wpList_pushI rfl (.tmp 18) (.tmp 21) rfl w2.heap.size (.slice ao1 m1 cap1) ((Z.take i).map (·.1)) x1 _ rfl R1.out.1 rfl (by simp) HB.out R1.out.2.size ?_; intro v3 w3 hN3 hG3; obtain ⟨a3, c3, hv3⟩ := hN3.slice; have K3 := hid (And.intro hN3 (grown_own R1.out.1 hG3 R1.out.2 (Nat.le_refl _))); obtain ⟨m3, hm3⟩ : ∃ m3, ((Z.take i).map (·.1) ++ [x1]).length = m3 := ⟨_, rfl⟩; rw [hm3] at hv3; subst hv3; clear hN3 hG3 hm3)
      go_roundw
      case rel =>
        refine ⟨i + 1, m3, c3, a3, by omega, by simp, rfl, hid ?_⟩
        rw [take_get hil, HX.out, List.map_append]
        exact K3.out
      case measure => simp [intOf]; omega
    · have hltI : ¬ (i : Int) < N := by omega
      have HF := hid (show Ns wr w.heap.size (.slice ao1 m1 cap1) (Z.map (·.1)) ∧ Wh wr wb F' (fun s => rest (fun x => decide (x.2 ≤ now)) (D s)) ∧ Kp w wr (rows F wb) by
        have h1 := hR.out
        rw [List.take_of_length_le (by have := HN.out; omega)] at h1
        exact ⟨owns_low h1.1 HK.out.size, HW.out.same h1.2, HK.out.trans h1.2.nil⟩)
      go_wp2
      go_ret
      exact ⟨⟨_, rfl, Z, HZ.out, HF.out.1⟩, ⟨F', HF.out.2.1, HOB.out⟩, HF.out.2.2⟩
end Go.Proofs.Ytoaceeddcnijoaa
