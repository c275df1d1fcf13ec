/- Alloc, Aligned, Free on TlsfCost's state. -/
import Derived.Test.YtgefmnnkpffpcaaGreatDoorHcheck2J
import Derived.Test.YtgefmnnkpffpcaaGreatDoorHalign2
import Derived.Test.YtgefmnnkpffpcaaGreatDoorHpieceJ
import Derived.Test.YtgefmnnkpffpcaaGreatDoorSet
import Derived.WalkKit
import Derived.ProofKit
import Derived.OpenShut
import Derived.ShutString
import Derived.ChangeOld
import Derived.Below
import Derived.SizedLaws
import Derived.Deep.Slices
namespace Go.Proofs.YtgefmnnkpffpcaaGreatDoor
open Go.RowKit

variable {w W : World} {hb rb mb pb n : Nat} {g : Mem} {P : Pcs} {ls : List Int} {V : Value} {c : Int}

/-- What an allocating call leaves: nothing, or a new piece. -/
def Got (w W : World) (hb rb mb pb n : Nat) (ls : List Int) (V : Value) (q : Int → Prop) (e : Ending) (w' : World) : Prop :=
  ((∃ er : Int, e = .returned (.tuple #[.int .i64 0, .int .i64 er]) ∧ (er == 0) = false ∧ ∃ g P c, c ≤ 200 ∧ Lc w w' hb rb mb pb n g P ls ls V c) ∨
   (∃ a : Int, e = .returned (.tuple #[.int .i64 a, .int .i64 0]) ∧ q a ∧ ∃ g P c, c ≤ 200 ∧ Lc w w' hb rb mb pb n g P ls (ls ++ [a]) V c)) ∧ Kp W w' [rb, mb, pb]

theorem alloc_got (h : Lc w W hb rb mb pb n g P ls ls V 0) (hl : ls.length ≤ 1000) (m : Int) :
    Calls Tryz.prog 18 #[.pointer (some ⟨hb, 0, none⟩), .int .i64 m] W (Got w W hb rb mb pb n ls V (fun _ => True)) := by
  cases hm : mayB m with
  | false =>
    refine (alloc_no W hb rb mb pb n g 0 P m h.hp hm).mono ?_
    rintro e w' ⟨rfl, hK⟩
    exact ⟨.inl ⟨2, rfl, rfl, g, P, 0, by omega, h.same hK⟩, hK.nil⟩
  | true =>
    have hm' : 1 ≤ m ∧ m ≤ 65536 := of_decide_eq_true hm
    have hlen := cs_length h.ct
    refine (alloc_any W hb rb mb pb n g 0 P m h.hp (by omega) hm'.1 hm'.2 (by unfold maxLen; omega)).mono ?_
    rintro e w' ⟨rfl, hw⟩
    have hK : Kp W w' [rb, mb, pb] := by obtain ⟨c', _, _, _, hK⟩ := hw; exact hK
    rcases cs_alloc h.ct hm'.1 hm'.2 with e | ⟨a, g', P', e, hc⟩
    · rw [e] at hw ⊢
      obtain ⟨c', h1, h2, h3⟩ := h.went hw h.ct
      exact ⟨.inl ⟨5, rfl, rfl, _, _, c', by omega, h3⟩, hK⟩
    · rw [e] at hw ⊢
      obtain ⟨c', h1, h2, h3⟩ := h.went hw hc
      exact ⟨.inr ⟨a, rfl, trivial, _, _, c', by omega, h3⟩, hK⟩
theorem aligned_got (h : Lc w W hb rb mb pb n g P ls ls V 0) (hl : ls.length ≤ 1000) (mul m : Int) (hm0 : -9223372036854775808 ≤ mul) :
    Calls Tryz.prog 19 #[.pointer (some ⟨hb, 0, none⟩), .int .i64 mul, .int .i64 m] W (Got w W hb rb mb pb n ls V (fun a => 8 ≤ mul ∧ a % mul = 0)) := by
  cases hm : (isMul mul && mayB m) with
  | false =>
    refine (aligned_no W hb rb mb pb n g 0 P mul m h.hp hm0 hm).mono ?_
    rintro e w' ⟨rfl, hK⟩
    exact ⟨.inl ⟨2, rfl, rfl, g, P, 0, by omega, h.same hK⟩, hK.nil⟩
  | true =>
    rw [Bool.and_eq_true] at hm
    have hm' : 1 ≤ m ∧ m ≤ 65536 := of_decide_eq_true hm.2
    have h8 : 8 ≤ mul := by
      have := hm.1
      unfold isMul at this
      simp only [Bool.and_eq_true, decide_eq_true_eq] at this
      omega
    have hlen := cs_length h.ct
    refine (aligned_any W hb rb mb pb n g 0 P mul m h.hp (by omega) hm.1 hm'.1 hm'.2 (by unfold maxLen; omega)).mono ?_
    rintro e w' ⟨rfl, hw⟩
    have hK : Kp W w' [rb, mb, pb] := by obtain ⟨c', _, _, _, hK⟩ := hw; exact hK
    rcases cs_aligned h.ct hm.1 hm'.1 hm'.2 with e | ⟨a, g', P', e, hc, ha⟩
    · rw [e] at hw ⊢
      obtain ⟨c', h1, h2, h3⟩ := h.went hw h.ct
      exact ⟨.inl ⟨5, rfl, rfl, _, _, c', by omega, h3⟩, hK⟩
    · rw [e] at hw ⊢
      obtain ⟨c', h1, h2, h3⟩ := h.went hw hc
      exact ⟨.inr ⟨a, rfl, ⟨h8, ha⟩, _, _, c', by omega, h3⟩, hK⟩
theorem free_got {cs : List Int} (h : Lc w W hb rb mb pb n g P ls cs V c) (hc : c < 1000000000) {k : Nat} {o : Int} (hk : cs[k]? = some o) :
    Calls Tryz.prog 21 #[.pointer (some ⟨hb, 0, none⟩), .int .i64 o] W fun e w' => e = .returned (.int .i64 0) ∧ (∃ g' P' c', c ≤ c' ∧ c' ≤ c + 29 ∧ Lc w w' hb rb mb pb n g' P' ls (cs.take k ++ cs.drop (k + 1)) V c') ∧ Kp W w' [rb, mb, pb] := by
  have hmem : o ∈ cs := List.mem_of_getElem? hk
  have p := cs_piece h.ct hmem
  refine (hfree_ok W hb rb mb pb n g c P o _ h.hp (by omega) (by omega) (cs_has h.ct hmem) rfl p.2.2.1 p.2.2.2.2.1 p.2.2.2.1).mono ?_
  rintro e w' ⟨rfl, hw⟩
  have hK : Kp W w' [rb, mb, pb] := by obtain ⟨c', _, _, _, hK⟩ := hw; exact hK
  obtain ⟨c', h1, h2, h3⟩ := h.went hw (cs_free h.ct hk)
  exact ⟨rfl, ⟨_, _, c', h1, h2, h3⟩, hK⟩
/-- A new piece is apart from the others. -/
theorem apart_got {a : Int} (h : Lc w W hb rb mb pb n g P ls (ls ++ [a]) V c) (hl : ls.length ≤ 1000) :
    Calls Tryz.prog 20 #[.pointer (some ⟨hb, 0, none⟩), V, .int .i64 a] W fun e w' => e = .returned (.bool true) ∧ Kp W w' [] := by
  have hnd := cs_nodup h.ct
  refine apart_ok W hb rb mb pb n w.heap.size g c P V ls (ls ++ [a]) a h.hp h.ct h.os (by simp) (fun x hx => ⟨by simp [hx], ?_⟩) hl
  rintro rfl
  have := (List.nodup_append.1 hnd).2.2 x hx x (by simp)
  exact this rfl
end Go.Proofs.YtgefmnnkpffpcaaGreatDoor

/- A script that came in, read. -/
namespace Go.Proofs.YtgefmnnkpffpcaaGreatDoor
open Go.ChangeShapes Go.WideShapes Go.ChangeAt Go.RowKit
set_option linter.unusedVariables false

/-- A step. -/
structure St where
  k : Int
  n : Int
  m : Int
  a : Int
  odd : Bool
  wd : Int
def i64r (x : Int) : Prop := -9223372036854775808 ≤ x ∧ x ≤ 9223372036854775807
/-- What a step may be. -/
def St.fit (s : St) : Prop := i64r s.k ∧ i64r s.n ∧ i64r s.m ∧ i64r s.a ∧ 0 ≤ s.wd ∧ s.wd < 4294967296
abbrev St.vals (s : St) : List Value := [.int .i64 s.k, .int .i64 s.n, .int .i64 s.m, .int .i64 s.a, .bool s.odd, .int .u32 s.wd]
/-- A slice of n steps at V. -/
def Sc (w : World) (V : Value) (n : Nat) (S : Nat → St) : Prop :=
  ∃ ao cap, V = .slice ao n cap ∧ n ≤ cap ∧ (0 < n → ∃ b off, ao = some ⟨b, off, none⟩ ∧ ∀ i, i < n →
    w.cell? ⟨b, off + i * 6, none⟩ = some (.int .i64 (S i).k) ∧ w.cell? ⟨b, off + i * 6 + 1, none⟩ = some (.int .i64 (S i).n) ∧ w.cell? ⟨b, off + i * 6 + 2, none⟩ = some (.int .i64 (S i).m) ∧
    w.cell? ⟨b, off + i * 6 + 3, none⟩ = some (.int .i64 (S i).a) ∧ w.cell? ⟨b, off + i * 6 + 4, none⟩ = some (.bool (S i).odd) ∧ w.cell? ⟨b, off + i * 6 + 5, none⟩ = some (.int .u32 (S i).wd)) ∧ ∀ i, i < n → (S i).fit
theorem Sc.shape {w : World} {V : Value} {n : Nat} {S : Nat → St} (h : Sc w V n S) : ∃ ao cap, V = .slice ao n cap := by
  obtain ⟨ao, cap, rfl, -⟩ := h
  exact ⟨ao, cap, rfl⟩
theorem Sc.keep {w w' : World} {V : Value} {n : Nat} {S : Nat → St} (h : Sc w V n S) (hk : Kp w w' []) : Sc w' V n S := by
  obtain ⟨ao, cap, rfl, h1, h2, h3⟩ := h
  refine ⟨ao, cap, rfl, h1, fun h0 => ?_, h3⟩
  obtain ⟨b, off, rfl, hc⟩ := h2 h0
  refine ⟨b, off, rfl, fun i hi => ?_⟩
  obtain ⟨a, b', c, d, e, f⟩ := hc i hi
  exact ⟨hk.cell a (by simp), hk.cell b' (by simp), hk.cell c (by simp), hk.cell d (by simp), hk.cell e (by simp), hk.cell f (by simp)⟩
theorem Sc.at {w : World} {ao : Option Addr} {cap : Nat} {n : Nat} {S : Nat → St} (h : Sc w (.slice ao n cap) n S) {i : Nat} (hi : i < n) : ∃ b off, ao = some ⟨b, off, none⟩ ∧
    (w.cell? ⟨b, off + i * 6, none⟩ = some (.int .i64 (S i).k) ∧ w.cell? ⟨b, off + i * 6 + 1, none⟩ = some (.int .i64 (S i).n) ∧ w.cell? ⟨b, off + i * 6 + 2, none⟩ = some (.int .i64 (S i).m) ∧
    w.cell? ⟨b, off + i * 6 + 3, none⟩ = some (.int .i64 (S i).a) ∧ w.cell? ⟨b, off + i * 6 + 4, none⟩ = some (.bool (S i).odd) ∧ w.cell? ⟨b, off + i * 6 + 5, none⟩ = some (.int .u32 (S i).wd)) ∧ (S i).fit := by
  obtain ⟨ao', cap', hv, h1, h2, h3⟩ := h
  simp only [Value.slice.injEq, true_and] at hv
  obtain ⟨rfl, rfl⟩ := hv
  obtain ⟨b, off, rfl, hc⟩ := h2 (by omega)
  exact ⟨b, off, rfl, hc i hi, h3 i hi⟩

theorem laidOut : laidOutB Tryz.prog = true := by kernel_rfl
theorem list6 {α : Type} {l : List α} (h : l.length = 6) : ∃ a b c d e f, l = [a, b, c, d, e, f] := by
  match l, h with
  | [a, b, c, d, e, f], _ => exact ⟨a, b, c, d, e, f, rfl⟩

theorem step_of_trod {H : Type} {enc : TypeId × Value → H} {W : World} {base fuel : Nat} {spare : TypeId → Bool} {held : Bool} {cs : List Value} {d : DataW H} {p : List MemPlace}
    (hf : DataW.trod enc Tryz.prog W base spare held fuel 35 cs = some (d, p)) :
    ∃ s : St, s.fit ∧ cs = s.vals := by
  obtain ⟨xs, m, -, hx, hlen, hl, hi⟩ := DataW.trod_struct Tryz.underlying35 hf
  have hC : Tryz.prog.cellsOf 35 = 6 := by kernel_rfl
  rw [hC] at hlen
  obtain ⟨c0, c1, c2, c3, c4, c5, rfl⟩ := list6 hlen
  obtain ⟨y0, y1, y2, y3, y4, y5, rfl⟩ := list6 (l := xs) (by simpa using hl)
  have k3 : Tryz.prog.cellsOf 3 = 1 := by kernel_rfl
  have k4 : Tryz.prog.cellsOf 4 = 1 := by kernel_rfl
  have k33 : Tryz.prog.cellsOf 33 = 1 := by kernel_rfl
  have i0 : DataW.trod enc Tryz.prog W base spare held m 3 (List.take (Tryz.prog.cellsOf 3) (List.drop 0 [c0, c1, c2, c3, c4, c5])) = some y0 := hi 0 _ rfl
  rw [k3] at i0
  have i1 : DataW.trod enc Tryz.prog W base spare held m 3 (List.take (Tryz.prog.cellsOf 3) (List.drop 1 [c0, c1, c2, c3, c4, c5])) = some y1 := hi 1 _ rfl
  rw [k3] at i1
  have i2 : DataW.trod enc Tryz.prog W base spare held m 3 (List.take (Tryz.prog.cellsOf 3) (List.drop 2 [c0, c1, c2, c3, c4, c5])) = some y2 := hi 2 _ rfl
  rw [k3] at i2
  have i3 : DataW.trod enc Tryz.prog W base spare held m 3 (List.take (Tryz.prog.cellsOf 3) (List.drop 3 [c0, c1, c2, c3, c4, c5])) = some y3 := hi 3 _ rfl
  rw [k3] at i3
  have i4 : DataW.trod enc Tryz.prog W base spare held m 4 (List.take (Tryz.prog.cellsOf 4) (List.drop 4 [c0, c1, c2, c3, c4, c5])) = some y4 := hi 4 _ rfl
  rw [k4] at i4
  have i5 : DataW.trod enc Tryz.prog W base spare held m 33 (List.take (Tryz.prog.cellsOf 33) (List.drop 5 [c0, c1, c2, c3, c4, c5])) = some y5 := hi 5 _ rfl
  rw [k33] at i5
  obtain ⟨x0, e0, -, w0⟩ := DataW.trod_int Tryz.underlying3 i0
  obtain ⟨x1, e1, -, w1⟩ := DataW.trod_int Tryz.underlying3 i1
  obtain ⟨x2, e2, -, w2⟩ := DataW.trod_int Tryz.underlying3 i2
  obtain ⟨x3, e3, -, w3⟩ := DataW.trod_int Tryz.underlying3 i3
  obtain ⟨x4, e4, -⟩ := DataW.trod_bool Tryz.underlying4 i4
  obtain ⟨x5, e5, -, w5⟩ := DataW.trod_int Tryz.underlying33 i5
  simp at e0 e1 e2 e3 e4 e5
  subst e0 e1 e2 e3 e4 e5
  have b0 := bounds_i64 w0
  have b1 := bounds_i64 w1
  have b2 := bounds_i64 w2
  have b3 := bounds_i64 w3
  have b5 : 0 ≤ x5 ∧ x5 < 4294967296 := by
    have := bounds_u32 w5
    omega
  exact ⟨⟨x0, x1, x2, x3, x4, x5⟩, ⟨b0, b1, b2, b3, b5.1, b5.2⟩, rfl⟩

theorem sc_of_trod {H : Type} {enc : TypeId × Value → H} {W : World} {base fuel : Nat} {spare : TypeId → Bool} {held : Bool} {V : Value} {d : DataW H} {p : List MemPlace}
    (hf : DataW.trod enc Tryz.prog W base spare held fuel 22 [V] = some (d, p)) : ∃ n S, Sc W V n S ∧ n ≤ maxLen := by
  rcases Go.Deep.open_slice Tryz.underlying22 hf with ⟨hcs, hx⟩ | ⟨a, len, cap, m, nf, D, Pl, hcs, hb, hl, hm, hmm, hx, hel⟩
  · simp only [List.cons.injEq, and_true] at hcs
    subst hcs
    exact ⟨0, fun _ => ⟨0, 0, 0, 0, false, 0⟩, ⟨none, 0, rfl, Nat.le_refl _, fun h => by omega, fun i hi => by omega⟩, by unfold maxLen; omega⟩
  · simp only [List.cons.injEq, and_true] at hcs
    subst hcs
    have hC : Tryz.prog.cellsOf 35 = 6 := by kernel_rfl
    rw [hC] at hel
    have hlm : len ≤ m := by rw [hmm]; split <;> omega
    haveI : Inhabited St := ⟨⟨0, 0, 0, 0, false, 0⟩⟩
    obtain ⟨S, hS⟩ := Go.Deep.choose_lt (n := len) (p := fun i (s : St) => s.fit ∧ W.cells? base (a.add (i * 6)) 6 = some s.vals) (fun i hi => by
      obtain ⟨cs', h1, h2⟩ := hel i (by omega)
      obtain ⟨s, hs, rfl⟩ := step_of_trod h2
      exact ⟨s, hs, h1⟩)
    refine ⟨len, S, ⟨some a, cap, rfl, hl, fun h0 => ?_, fun i hi => (hS i hi).1⟩, by omega⟩
    obtain ⟨b, off, spot⟩ := a
    have hspot : spot = none := by
      have := (World.cells?_some (hS 0 h0).2).2.2 0 (by decide)
      have h2 := World.cell?_spot (v := .int .i64 (S 0).k) (by simpa using this)
      simpa [Addr.add] using h2
    subst hspot
    refine ⟨b, off, rfl, fun i hi => ?_⟩
    have hc := (World.cells?_some (hS i hi).2).2.2
    simp only [Addr.add_lit] at hc
    exact ⟨hc 0 (by decide), hc 1 (by decide), hc 2 (by decide), hc 3 (by decide), hc 4 (by decide), hc 5 (by decide)⟩
end Go.Proofs.YtgefmnnkpffpcaaGreatDoor
