/- A script that came in, read. -/
import Derived.Test.YtgefmnnkpffpcaaGreatDoorNoMoreJ
import Derived.WalkKit
import Derived.ProofKit
import Derived.OpenShut
import Derived.ShutString
import Derived.ChangeOld
import Derived.Below
import Derived.SizedLaws
import Derived.Deep.Slices
import Derived.Test.YtgefmnnkpffpcaaGreatDoorSboJ
import Derived.Deep.RegionHeldLaw
namespace Go.Proofs.YtgefmnnkpffpcaaGreatDoor
open Go.ChangeShapes Go.WideShapes Go.ChangeAt Go.RowKit
set_option linter.unusedVariables false

/-- A step. -/
structure St where
  k : Int
  n : Int
  m : Int
  a : Int
  odd : Bool
  wd : Int
def i64r (x : Int) : Prop := -9223372036854775808 ≤ x ∧ x ≤ 9223372036854775807
/-- What a step may be. -/
def St.fit (s : St) : Prop := i64r s.k ∧ i64r s.n ∧ i64r s.m ∧ i64r s.a ∧ 0 ≤ s.wd ∧ s.wd < 4294967296
abbrev St.vals (s : St) : List Value := [.int .i64 s.k, .int .i64 s.n, .int .i64 s.m, .int .i64 s.a, .bool s.odd, .int .u32 s.wd]
/-- A slice of n steps at V. -/
def Sc (w : World) (V : Value) (n : Nat) (S : Nat → St) : Prop :=
  ∃ ao cap, V = .slice ao n cap ∧ n ≤ cap ∧ (0 < n → ∃ b off, ao = some ⟨b, off, none⟩ ∧ ∀ i, i < n →
    w.cell? ⟨b, off + i * 6, none⟩ = some (.int .i64 (S i).k) ∧ w.cell? ⟨b, off + i * 6 + 1, none⟩ = some (.int .i64 (S i).n) ∧ w.cell? ⟨b, off + i * 6 + 2, none⟩ = some (.int .i64 (S i).m) ∧
    w.cell? ⟨b, off + i * 6 + 3, none⟩ = some (.int .i64 (S i).a) ∧ w.cell? ⟨b, off + i * 6 + 4, none⟩ = some (.bool (S i).odd) ∧ w.cell? ⟨b, off + i * 6 + 5, none⟩ = some (.int .u32 (S i).wd)) ∧ ∀ i, i < n → (S i).fit
theorem Sc.shape {w : World} {V : Value} {n : Nat} {S : Nat → St} (h : Sc w V n S) : ∃ ao cap, V = .slice ao n cap := by
  obtain ⟨ao, cap, rfl, -⟩ := h
  exact ⟨ao, cap, rfl⟩
theorem Sc.keep {w w' : World} {V : Value} {n : Nat} {S : Nat → St} (h : Sc w V n S) (hk : Kp w w' []) : Sc w' V n S := by
  obtain ⟨ao, cap, rfl, h1, h2, h3⟩ := h
  refine ⟨ao, cap, rfl, h1, fun h0 => ?_, h3⟩
  obtain ⟨b, off, rfl, hc⟩ := h2 h0
  refine ⟨b, off, rfl, fun i hi => ?_⟩
  obtain ⟨a, b', c, d, e, f⟩ := hc i hi
  exact ⟨hk.cell a (by simp), hk.cell b' (by simp), hk.cell c (by simp), hk.cell d (by simp), hk.cell e (by simp), hk.cell f (by simp)⟩
theorem Sc.at {w : World} {ao : Option Addr} {cap : Nat} {n : Nat} {S : Nat → St} (h : Sc w (.slice ao n cap) n S) {i : Nat} (hi : i < n) : ∃ b off, ao = some ⟨b, off, none⟩ ∧
    (w.cell? ⟨b, off + i * 6, none⟩ = some (.int .i64 (S i).k) ∧ w.cell? ⟨b, off + i * 6 + 1, none⟩ = some (.int .i64 (S i).n) ∧ w.cell? ⟨b, off + i * 6 + 2, none⟩ = some (.int .i64 (S i).m) ∧
    w.cell? ⟨b, off + i * 6 + 3, none⟩ = some (.int .i64 (S i).a) ∧ w.cell? ⟨b, off + i * 6 + 4, none⟩ = some (.bool (S i).odd) ∧ w.cell? ⟨b, off + i * 6 + 5, none⟩ = some (.int .u32 (S i).wd)) ∧ (S i).fit := by
  obtain ⟨ao', cap', hv, h1, h2, h3⟩ := h
  simp only [Value.slice.injEq, true_and] at hv
  obtain ⟨rfl, rfl⟩ := hv
  obtain ⟨b, off, rfl, hc⟩ := h2 (by omega)
  exact ⟨b, off, rfl, hc i hi, h3 i hi⟩

theorem laidOut : laidOutB Tryz.prog = true := by kernel_rfl
theorem list6 {α : Type} {l : List α} (h : l.length = 6) : ∃ a b c d e f, l = [a, b, c, d, e, f] := by
  match l, h with
  | [a, b, c, d, e, f], _ => exact ⟨a, b, c, d, e, f, rfl⟩

theorem step_of_trod {H : Type} {enc : TypeId × Value → H} {W : World} {base fuel : Nat} {spare : TypeId → Bool} {held : Bool} {cs : List Value} {d : DataW H} {p : List MemPlace}
    (hf : DataW.trod enc Tryz.prog W base spare held fuel 35 cs = some (d, p)) :
    ∃ s : St, s.fit ∧ cs = s.vals := by
  obtain ⟨xs, m, -, hx, hlen, hl, hi⟩ := DataW.trod_struct Tryz.underlying35 hf
  have hC : Tryz.prog.cellsOf 35 = 6 := by kernel_rfl
  rw [hC] at hlen
  obtain ⟨c0, c1, c2, c3, c4, c5, rfl⟩ := list6 hlen
  obtain ⟨y0, y1, y2, y3, y4, y5, rfl⟩ := list6 (l := xs) (by simpa using hl)
  have k3 : Tryz.prog.cellsOf 3 = 1 := by kernel_rfl
  have k4 : Tryz.prog.cellsOf 4 = 1 := by kernel_rfl
  have k33 : Tryz.prog.cellsOf 33 = 1 := by kernel_rfl
  have i0 : DataW.trod enc Tryz.prog W base spare held m 3 (List.take (Tryz.prog.cellsOf 3) (List.drop 0 [c0, c1, c2, c3, c4, c5])) = some y0 := hi 0 _ rfl
  rw [k3] at i0
  have i1 : DataW.trod enc Tryz.prog W base spare held m 3 (List.take (Tryz.prog.cellsOf 3) (List.drop 1 [c0, c1, c2, c3, c4, c5])) = some y1 := hi 1 _ rfl
  rw [k3] at i1
  have i2 : DataW.trod enc Tryz.prog W base spare held m 3 (List.take (Tryz.prog.cellsOf 3) (List.drop 2 [c0, c1, c2, c3, c4, c5])) = some y2 := hi 2 _ rfl
  rw [k3] at i2
  have i3 : DataW.trod enc Tryz.prog W base spare held m 3 (List.take (Tryz.prog.cellsOf 3) (List.drop 3 [c0, c1, c2, c3, c4, c5])) = some y3 := hi 3 _ rfl
  rw [k3] at i3
  have i4 : DataW.trod enc Tryz.prog W base spare held m 4 (List.take (Tryz.prog.cellsOf 4) (List.drop 4 [c0, c1, c2, c3, c4, c5])) = some y4 := hi 4 _ rfl
  rw [k4] at i4
  have i5 : DataW.trod enc Tryz.prog W base spare held m 33 (List.take (Tryz.prog.cellsOf 33) (List.drop 5 [c0, c1, c2, c3, c4, c5])) = some y5 := hi 5 _ rfl
  rw [k33] at i5
  obtain ⟨x0, e0, -, w0⟩ := DataW.trod_int Tryz.underlying3 i0
  obtain ⟨x1, e1, -, w1⟩ := DataW.trod_int Tryz.underlying3 i1
  obtain ⟨x2, e2, -, w2⟩ := DataW.trod_int Tryz.underlying3 i2
  obtain ⟨x3, e3, -, w3⟩ := DataW.trod_int Tryz.underlying3 i3
  obtain ⟨x4, e4, -⟩ := DataW.trod_bool Tryz.underlying4 i4
  obtain ⟨x5, e5, -, w5⟩ := DataW.trod_int Tryz.underlying33 i5
  simp at e0 e1 e2 e3 e4 e5
  subst e0 e1 e2 e3 e4 e5
  have b0 := bounds_i64 w0
  have b1 := bounds_i64 w1
  have b2 := bounds_i64 w2
  have b3 := bounds_i64 w3
  have b5 : 0 ≤ x5 ∧ x5 < 4294967296 := by
    have := bounds_u32 w5
    omega
  exact ⟨⟨x0, x1, x2, x3, x4, x5⟩, ⟨b0, b1, b2, b3, b5.1, b5.2⟩, rfl⟩

theorem sc_of_trod {H : Type} {enc : TypeId × Value → H} {W : World} {base fuel : Nat} {spare : TypeId → Bool} {held : Bool} {V : Value} {d : DataW H} {p : List MemPlace}
    (hf : DataW.trod enc Tryz.prog W base spare held fuel 22 [V] = some (d, p)) : ∃ n S, Sc W V n S ∧ n ≤ maxLen := by
  rcases Go.Deep.open_slice Tryz.underlying22 hf with ⟨hcs, hx⟩ | ⟨a, len, cap, m, nf, D, Pl, hcs, hb, hl, hm, hmm, hx, hel⟩
  · simp only [List.cons.injEq, and_true] at hcs
    subst hcs
    exact ⟨0, fun _ => ⟨0, 0, 0, 0, false, 0⟩, ⟨none, 0, rfl, Nat.le_refl _, fun h => by omega, fun i hi => by omega⟩, by unfold maxLen; omega⟩
  · simp only [List.cons.injEq, and_true] at hcs
    subst hcs
    have hC : Tryz.prog.cellsOf 35 = 6 := by kernel_rfl
    rw [hC] at hel
    have hlm : len ≤ m := by rw [hmm]; split <;> omega
    haveI : Inhabited St := ⟨⟨0, 0, 0, 0, false, 0⟩⟩
    obtain ⟨S, hS⟩ := Go.Deep.choose_lt (n := len) (p := fun i (s : St) => s.fit ∧ W.cells? base (a.add (i * 6)) 6 = some s.vals) (fun i hi => by
      obtain ⟨cs', h1, h2⟩ := hel i (by omega)
      obtain ⟨s, hs, rfl⟩ := step_of_trod h2
      exact ⟨s, hs, h1⟩)
    refine ⟨len, S, ⟨some a, cap, rfl, hl, fun h0 => ?_, fun i hi => (hS i hi).1⟩, by omega⟩
    obtain ⟨b, off, spot⟩ := a
    have hspot : spot = none := by
      have := (World.cells?_some (hS 0 h0).2).2.2 0 (by decide)
      have h2 := World.cell?_spot (v := .int .i64 (S 0).k) (by simpa using this)
      simpa [Addr.add] using h2
    subst hspot
    refine ⟨b, off, rfl, fun i hi => ?_⟩
    have hc := (World.cells?_some (hS i hi).2).2.2
    simp only [Addr.add_lit] at hc
    exact ⟨hc 0 (by decide), hc 1 (by decide), hc 2 (by decide), hc 3 (by decide), hc 4 (by decide), hc 5 (by decide)⟩
end Go.Proofs.YtgefmnnkpffpcaaGreatDoor

/- The law's offset and got. -/
namespace Go.Proofs.YtgefmnnkpffpcaaGreatDoor
open Go.RowKit Go.Maps

/-- Which offset a step means. -/
def offP (s : St) (ls : List Int) : Int := if s.odd = true ∨ s.a < 0 ∨ ls = [] then s.a else ls[(s.a.tmod ls.length).toNat]!
theorem offP_cases (s : St) (ls : List Int) : offP s ls = s.a ∨ (s.odd = false ∧ offP s ls ∈ ls) := by
  unfold offP
  split
  · exact .inl rfl
  · rename_i h
    simp only [not_or, Bool.not_eq_true] at h
    right
    refine ⟨h.1, ?_⟩
    have hp : 0 < ls.length := List.length_pos_iff.2 h.2.2
    have h1 := Int.tmod_nonneg (a := s.a) (ls.length : Int) (by omega)
    have h2 := Int.tmod_lt_of_pos s.a (b := (ls.length : Int)) (by omega)
    rw [getElem!_pos ls _ (by omega)]
    exact List.getElem_mem _
theorem cell6 {w : World} {a b c d e f : Value} : (w.alloc (.cells #[a, b, c, d, e, f] 35)).cell? ⟨w.heap.size, 0, none⟩ = some a ∧ (w.alloc (.cells #[a, b, c, d, e, f] 35)).cell? ⟨w.heap.size, 1, none⟩ = some b ∧ (w.alloc (.cells #[a, b, c, d, e, f] 35)).cell? ⟨w.heap.size, 2, none⟩ = some c ∧ (w.alloc (.cells #[a, b, c, d, e, f] 35)).cell? ⟨w.heap.size, 3, none⟩ = some d ∧ (w.alloc (.cells #[a, b, c, d, e, f] 35)).cell? ⟨w.heap.size, 4, none⟩ = some e ∧ (w.alloc (.cells #[a, b, c, d, e, f] 35)).cell? ⟨w.heap.size, 5, none⟩ = some f := by
  have h := heap_alloc_new w (.cells #[a, b, c, d, e, f] 35)
  exact ⟨by rw [cell_of_row _ _ _ _ _ _ h]; rfl, by rw [cell_of_row _ _ _ _ _ _ h]; rfl, by rw [cell_of_row _ _ _ _ _ _ h]; rfl, by rw [cell_of_row _ _ _ _ _ _ h]; rfl, by rw [cell_of_row _ _ _ _ _ _ h]; rfl, by rw [cell_of_row _ _ _ _ _ _ h]; rfl⟩
/-- A step's value. -/
abbrev St.val (s : St) : Value := .agg #[.int .i64 s.k, .int .i64 s.n, .int .i64 s.m, .int .i64 s.a, .bool s.odd, .int .u32 s.wd]
section
variable {w0 w w1 w2 : World} {qb hb rb mb pb xb eb n : Nat} {g g' : Mem} {c k : Int} {L L' : List Bl} {F F' : Nat → List Int} {V : Value} {G : Nat → Value} {f f' : Nat → Nat} {lv : Value} {ls : List Int} {X X' : Nat → Prop} {P' : Pcs}
set_option maxRecDepth 100000 in
set_option maxHeartbeats 2000000 in
theorem off_any (B : Bh w0 w qb hb xb eb n L F V G f lv ls) (s : St) (hl : ls.length ≤ 1000) :
    Calls Tryz.prog 33 #[.pointer (some ⟨qb, 0, none⟩), s.val] w fun e w' => e = .returned (.int .i64 (offP s ls)) ∧ Kp w w' [] := by
  obtain ⟨sk, sn, sm, sa, so, sw⟩ := s
  obtain ⟨ao, cap, rfl⟩ := B.is.slice
  obtain ⟨N, hN⟩ : ∃ N, ls.length = N := ⟨_, rfl⟩
  obtain ⟨A, hA⟩ : ∃ A, offP ⟨sk, sn, sm, sa, so, sw⟩ ls = A := ⟨_, rfl⟩
  have c2 := (B.same (Kp.alloc w (.cells #[.int .i64 sk, .int .i64 sn, .int .i64 sm, .int .i64 sa, .bool so, .int .u32 sw] 35) [])).c2
  obtain ⟨y0, y1, y2, y3, y4, y5⟩ := cell6 (w := w) (a := .int .i64 sk) (b := .int .i64 sn) (c := .int .i64 sm) (d := .int .i64 sa) (e := .bool so) (f := .int .u32 sw)
  have HK := hid (Kp.alloc w (.cells #[.int .i64 sk, .int .i64 sn, .int .i64 sm, .int .i64 sa, .bool so, .int .u32 sw] 35) [])
  have his := B.is.keep HK.out
  rw [hN] at c2 his hl
  rw [hA]
  by_cases hr : so = false ∧ 0 ≤ sa ∧ ls ≠ []
  · obtain ⟨rfl, h1, h2⟩ := hr
    have hp : 0 < N := by rw [← hN]; exact List.length_pos_iff.2 h2
    have hp' : (0 : Int) < N := by omega
    obtain ⟨j, hj⟩ : ∃ j : Nat, sa.tmod N = j := ⟨(sa.tmod N).toNat, (Int.toNat_of_nonneg (Int.tmod_nonneg _ h1)).symm⟩
    have hje : sa % N = j := by rw [← hj, Int.tmod_eq_emod_of_nonneg h1]
    have hjm : j < N := by
      have := Int.tmod_lt_of_pos sa hp'
      omega
    have hx : ls[j]? = some A := by
      rw [← hA]
      unfold offP
      rw [if_neg (by simp; exact ⟨h1, h2⟩)]
      simp only
      rw [hN, hj, Int.toNat_natCast, getElem!_pos ls j (by omega)]
      exact List.getElem?_eq_getElem _
    obtain ⟨gb, rfl, -, -, co⟩ := his.at hx
    have hjb : 0 ≤ (j : Int) ∧ (j : Int) < N := by omega
    have hn2 : ¬ (N : Int) = 0 := by omega
    have hnn : ¬ sa < 0 := by omega
    have hcp : N ≤ cap := by have := his.cap; omega
    have hN0 : ((N : Int) == 0) = false := by simp; omega
    clear B his hx hA hN h2
    go_enter Tryz.func33, Tryz.ntmps33
    go_wp2_with fail
    go_quiet (fail)
    all_goals (
      go_wp2
      go_ret
      exact ⟨rfl, HK.out.trans (Kp.drewN _ _ _)⟩)
  · have hA2 : A = sa := by
      rw [← hA]
      unfold offP
      rw [if_pos]
      simp only
      cases so
      · simp at hr
        by_cases q : sa < 0
        · exact .inr (.inl q)
        · exact .inr (.inr (hr (by omega)))
      · exact .inl rfl
    subst hA2
    cases so with
    | true =>
      clear B his hA hN hr
      go_enter Tryz.func33, Tryz.ntmps33
      go_wp2
      go_ret
      exact ⟨rfl, HK.out⟩
    | false =>
      by_cases q : A < 0
      · clear B his hA hN hr
        go_enter Tryz.func33, Tryz.ntmps33
        go_wp2
        go_ret
        exact ⟨rfl, HK.out⟩
      · have e0 : ls = [] := by simp at hr; exact hr (by omega)
        have hN0 : N = 0 := by rw [← hN, e0]; rfl
        subst hN0
        clear B his hA hN hr e0
        go_enter Tryz.func33, Tryz.ntmps33
        go_wp2
        go_ret
        exact ⟨rfl, HK.out⟩
set_option maxRecDepth 100000 in
set_option maxHeartbeats 2000000 in
/-- got: nothing was given. -/
theorem got_no (w : World) (qb : Nat) (a er : Int) (he : er ≠ 0) :
    Calls Tryz.prog 35 #[.pointer (some ⟨qb, 0, none⟩), .int .i64 a, .int .i64 er, .int .i64 a, .int .i64 er] w fun e w' => e = .returned (.bool true) ∧ w' = w := by
  have h0 : (er == 0) = false := by simp [he]
  have h1 : (a == a) = true := by simp
  have h2 : (er == er) = true := by simp
  go_enter Tryz.func35, Tryz.ntmps35
  go_wp2_with fail
  refine (num_any _ _).mono ?_
  rintro e wn ⟨rfl, hE⟩
  rw [hE]
  clear hE
  go_wp2
  go_ret
  exact ⟨rfl, rfl⟩
set_option maxRecDepth 100000 in
set_option maxHeartbeats 2000000 in
theorem got_yes (B : Bo w0 w qb hb rb mb pb xb eb n g c L F V G f lv ls X) (a : Int) (ha : 0 ≤ a ∧ a ≤ 65536) (hl : ls.length ≤ 1000) :
    Calls Tryz.prog 35 #[.pointer (some ⟨qb, 0, none⟩), .int .i64 a, .int .i64 0, .int .i64 a, .int .i64 0] w fun e w' => e = .returned (.bool true) ∧ ∃ lv', Bo w0 w' qb hb rb mb pb xb eb n g c L F V G f lv' (ls ++ [a]) X := by
  have HB := hid B
  have c2 := B.bh.c2
  obtain ⟨ao, cap, hlv⟩ := B.bh.is.slice
  rw [hlv] at c2
  have HLV := hid hlv
  have fz := hid (fun (w1 : World) (h : w1.heap[qb]? = w.heap[qb]?) => show w1.frozen? ⟨qb, 2, none⟩ = false by simp [World.frozen?, h, HB.out.bh.pr])
  have hs : w0.heap.size ≤ w.heap.size := B.bh.kp.size
  have h1 : (a == a) = true := by simp
  have HA := hid ha
  clear B hlv ha
  go_enter Tryz.func35, Tryz.ntmps35
  go_wp2_with (refine wpList_pushW rfl (.tmp 17) (.tmp 19) rfl w0.heap.size lv ls a (by rw [HLV.out]; rfl) HB.out.bh.is rfl (by omega) hs ?_; intro v1 w1 hI hG hW; have pr1 := HB.out.pushed hG; have c21 := (cell_tri pr1).2.2; have f21 : w1.frozen? ⟨qb, 2, none⟩ = false := (by simp [World.frozen?, pr1]); have HN := hid (HB.out.push hG hI hW HA.out); obtain ⟨ao1, cp1, hv1⟩ := hI.slice; rw [show (ls ++ [a]).length = ls.length + 1 from (by simp)] at hv1; subst hv1; clear pr1 hI hG hW)
  refine (num_any _ _).mono ?_
  rintro e wn ⟨rfl, hE⟩
  rw [hE]
  clear hE
  go_wp2
  go_ret
  exact ⟨rfl, _, HN.out⟩
end
end Go.Proofs.YtgefmnnkpffpcaaGreatDoor
