/- checkLists, Len. -/
import Derived.Test.YtgefmnnkpffpcaaGreatDoorHcheck1
import Derived.Test.YtgefmnnkpffpcaaGreatDoorCapartJ
namespace Go.Proofs.YtgefmnnkpffpcaaGreatDoor
open Go.RowKit Go.Maps

theorem Mp.len {w : World} {b : Nat} {P : Pcs} (h : Mp w b P) (ty : TypeId) : (Builtin.len_ #[65] ty #[.map (some b)]).run Tryz.prog w = .ok (.int .i64 P.length) w := by
  have := World.ownsMap.len h Tryz.underlying65 ty
  rw [dat_size] at this
  exact this

set_option maxRecDepth 100000 in
theorem len_any (w : World) (hb rb mb pb n : Nat) (g : Mem) (c : Int) (P : Pcs) (h : Hp w hb rb mb pb n g c P) :
    Calls Tryz.prog 23 #[.pointer (some ⟨hb, 0, none⟩)] w fun e w' => e = .returned (.int .i64 P.length) ∧ Kp w w' [] := by
  have q0 := h.c0cell
  have q1 := h.c1cell
  have M := hid h.mp
  clear h
  obtain ⟨L, hL⟩ : ∃ L : Nat, P.length = L := ⟨_, rfl⟩
  have ln := M.out.len
  rw [hL] at ln ⊢
  clear hL
  go_enter Tryz.func23, Tryz.ntmps23
  go_wp2_with (go_at_call 51; go_in)
  go_ret
  exact ⟨rfl, Kp.refl _ _⟩

set_option maxRecDepth 100000 in
theorem arena_any (w : World) (hb rb mb pb n : Nat) (g : Mem) (c : Int) (P : Pcs) (h : Hp w hb rb mb pb n g c P) :
    Calls Tryz.prog 16 #[.pointer (some ⟨hb, 0, none⟩)] w fun e w' => e = .returned (.pointer (some ⟨rb, 0, none⟩)) ∧ Kp w w' [] := by
  have q0 := h.c0cell
  clear h
  go_enter Tryz.func16, Tryz.ntmps16
  go_wp2_with (go_at_call 51; go_in)
  go_ret
  exact ⟨rfl, Kp.refl _ _⟩

/-- All lists from a class on: the bits of those that are not empty, and what is left of the free blocks. -/
def chkA (n : Nat) (g : Mem) (K : Nat) : Nat → Nat → Nat → Pcs → Option (Nat × Pcs)
  | 0, _, S, F => some (S, F)
  | j + 1, i, S, F => match chkL n g i K 0 (rd n g (4 + (i : Int) * 4)) F with
    | none => none
    | some F' => chkA n g K j (i + 1) (if rd n g (4 + (i : Int) * 4) = 0 then S else S ||| 2 ^ i) F'
theorem chkA_step {n K j i S : Nat} {g : Mem} {F : Pcs} {R : Nat × Pcs} (h : chkA n g K (j + 1) i S F = some R) :
    ∃ F', chkL n g i K 0 (rd n g (4 + (i : Int) * 4)) F = some F' ∧ chkA n g K j (i + 1) (if rd n g (4 + (i : Int) * 4) = 0 then S else S ||| 2 ^ i) F' = some R := by
  rw [chkA] at h
  split at h
  · cases h
  · rename_i F' hF
    exact ⟨F', hF, h⟩
theorem shl_small {k : Nat} (hk : k < 32) : IntKind.i64.wrap (2 ^ k) = 2 ^ k := by
  have hp : 2 ^ k < 2 ^ 32 := Nat.pow_lt_pow_right (by decide) hk
  have e : (2 : Int) ^ k = ((2 ^ k : Nat) : Int) := by push_cast; rfl
  rw [e]
  exact wrap64_small _ (by omega)
theorem or_bit {S k : Nat} (hS : S < 2 ^ 24) (hk : k < 24) : bits .or .i64 (S : Int) (2 ^ k) = ((S ||| 2 ^ k : Nat) : Int) ∧ S ||| 2 ^ k < 2 ^ 24 := by
  have hp : 2 ^ k < 2 ^ 24 := Nat.pow_lt_pow_right (by decide) hk
  have e : (2 : Int) ^ k = ((2 ^ k : Nat) : Int) := by push_cast; rfl
  rw [e]
  exact ⟨i64_or S (2 ^ k) (by omega) (by omega), Nat.or_lt_two_pow hS hp⟩

theorem Ck.join {w w' w'' : World} {hb rb mb pb fb n : Nat} {g : Mem} {P F' : Pcs} {c c1 k k' : Int} (h1 : c ≤ c1) (h2 : c1 ≤ c + k) (hK : Kp w w' [rb, fb]) (h : Ck w' w'' hb rb mb pb fb n g P c1 k' F') : Ck w w'' hb rb mb pb fb n g P c (k + k') F' := by
  obtain ⟨c2, x1, x2, x3, x4, x5⟩ := h
  exact ⟨c2, by omega, by omega, x3, x4, hK.trans x5⟩

set_option maxRecDepth 100000 in
set_option maxHeartbeats 4000000 in
theorem lists_ok (w : World) (hb rb mb pb fb n K S' : Nat) (g : Mem) (c : Int) (P F : Pcs) (h : Hp w hb rb mb pb n g c P) (hF : Mp w fb F) (hf : Off hb rb mb pb fb) (hK : K ≤ 5000) (hc : c < 1152921504606000000)
    (hA : chkA n g K 24 0 0 F = some (S', [])) (hS : rd n g 0 = S') :
    Calls Tryz.prog 74 #[.pointer (some ⟨hb, 0, none⟩), .map (some fb)] w fun e w' => e = .returned (.bool true) ∧ Ck w w' hb rb mb pb fb n g P c (24 * (2 * K + 2) + 1) [] := by
  have H := hid h
  have C0 := hid (show Ck w w hb rb mb pb fb n g P c 0 F from ⟨c, by omega, by omega, h, hF, Kp.refl _ _⟩)
  have OF := hid hf
  have HA := hid hA
  have HS := hid hS
  clear h hF hf hA hS
  go_enter Tryz.func74, Tryz.ntmps74
  go_wp2_with fail
  go_loopg [5, 7] 24 (fun j s t wr => ∃ (i S : Nat) (F1 : Pcs), i + j = 24 ∧ s = .int .i64 S ∧ t = .int .i64 i ∧ S < 2 ^ 24 ∧ Hid (chkA n g K j i S F1 = some (S', [])) ∧ Hid (Ck w wr hb rb mb pb fb n g P c (i * (2 * K + 2)) F1))
  case atStart => exact ⟨0, 0, F, rfl, rfl, rfl, by decide, HA, hid (C0.out.mono (by omega))⟩
  case round =>
    obtain ⟨i, S, F1, hij, rfl, rfl, hSS, CA, CK⟩ := hrel
    obtain ⟨c1, x1, x2, hH1, hM1, hK1⟩ := CK.out
    have hcc : c1 + 2 * K + 1 < 1152921504606820000 := by
      have : (i : Int) * (2 * K + 2) ≤ 24 * (2 * K + 2) := Int.mul_le_mul_of_nonneg_right (by omega) (by omega)
      omega
    cases gk with
    | zero =>
      have hi : i = 24 := by omega
      subst hi
      have e := CA.out
      simp only [chkA, Option.some.injEq, Prod.mk.injEq] at e
      obtain ⟨rfl, rfl⟩ := e
      have ln := hM1.len
      simp only [List.length_nil] at ln
      have H1 := hid hH1
      have M1 := hid hM1
      have K1 := hid hK1
      clear CA CK hH1 hM1 hK1
      go_wp2_with fail
      refine (word_any wr hb rb mb pb n g c1 P 0 H1.out (by omega) (by decide)).mono ?_
      rintro e w2 ⟨rfl, hW2⟩
      rw [HS.out]
      have C2 := hid (Ck.word OF.out x1 x2 M1.out K1.out hW2)
      clear hW2 ln
      go_wp2_with fail
      go_ret
      exact ⟨rfl, C2.out.mono (by omega)⟩
    | succ j =>
      obtain ⟨F2, hL, hN⟩ := chkA_step CA.out
      have hlt : i < 24 := by omega
      have hltI : (i : Int) < 24 := by omega
      have hr := hH1.range (4 + (i : Int) * 4)
      obtain ⟨x, hx⟩ : ∃ x, rd n g (4 + (i : Int) * 4) = x := ⟨_, rfl⟩
      rw [hx] at hr hN
      have HX := hid hx
      have HL := hid hL
      have H1 := hid hH1
      have M1 := hid hM1
      have K1 := hid hK1
      have hw2 := shl_small (k := i) (by omega)
      obtain ⟨hor, hor2⟩ := or_bit hSS hlt
      obtain ⟨S2, hS2⟩ : ∃ S2, S ||| 2 ^ i = S2 := ⟨_, rfl⟩
      rw [hS2] at hor hor2 hN
      have HS2 := hid hS2
      have HN := hid hN
      have HM := hid (show ((i + 1 : Nat) : Int) * (2 * K + 2) = i * (2 * K + 2) + (2 * K + 2) by push_cast; rw [Int.add_mul]; omega)
      clear CA CK hH1 hM1 hK1 hx hL hN hS2
      go_wp2_with (go_at_call 96; refine (firstAt_any _ (i : Int) (by omega) (by omega)).mono ?_; rintro e w' ⟨rfl, hE⟩; rw [hE]; clear hE)
      refine (word_any wr hb rb mb pb n g c1 P (4 + (i : Int) * 4) H1.out (by omega) (by omega)).mono ?_
      rintro e w2 ⟨rfl, hW2⟩
      rw [HX.out]
      have C2 := hid (Ck.word OF.out x1 x2 M1.out K1.out hW2)
      obtain ⟨c2, y1, y2, hH2, hM2, hK2⟩ := C2.out
      have H2 := hid hH2
      have M2 := hid hM2
      have K2 := hid hK2
      have hcc2 : c2 + 2 * K < 1152921504606820000 := by
        obtain ⟨c3, z1, z2, -⟩ := hW2
        have : (i : Int) * (2 * K + 2) ≤ 24 * (2 * K + 2) := Int.mul_le_mul_of_nonneg_right (by omega) (by omega)
        omega
      clear hW2 hH2 hM2 hK2
      by_cases hz : x = 0
      · have HN2 := hid (show chkA n g K j (i + 1) S F2 = some (S', []) by have := HN.out; rwa [if_pos hz] at this)
        clear HN
        subst hz
        go_wp2_with fail
        refine (list_ok w2 hb rb mb pb fb n K g c2 i P F1 F2 H2.out M2.out OF.out hcc2 (by omega) (by omega) HL.out).mono ?_
        rintro e w3 ⟨rfl, hC3⟩
        have C3 := hid (Ck.join y1 y2 K2.out hC3)
        clear hC3
        go_wp2_with fail
        go_roundg j
        case measure => omega
        case rel => exact ⟨i + 1, S, F2, by omega, rfl, by simp, hSS, HN2, hid (C3.out.mono (by rw [HM.out]; omega))⟩
      · have hzb : (x == 0) = false := by simpa using hz
        have HN2 := hid (show chkA n g K j (i + 1) S2 F2 = some (S', []) by have := HN.out; rwa [if_neg hz] at this)
        clear hz HN
        go_wp2_with fail
        refine (list_ok w2 hb rb mb pb fb n K g c2 i P F1 F2 H2.out M2.out OF.out hcc2 (by omega) (by omega) HL.out).mono ?_
        rintro e w3 ⟨rfl, hC3⟩
        have C3 := hid (Ck.join y1 y2 K2.out hC3)
        clear hC3
        go_wp2_with fail
        go_roundg j
        case measure => omega
        case rel => exact ⟨i + 1, S2, F2, by omega, rfl, by simp, hor2, HN2, hid (C3.out.mono (by rw [HM.out]; omega))⟩
end Go.Proofs.YtgefmnnkpffpcaaGreatDoor

/- TlsfCost's state. -/
namespace Go.Proofs.YtgefmnnkpffpcaaGreatDoor
open Go.RowKit

/-- A heap, the pieces told, and the slice that holds them; ls: what the slice holds, cs: what there is. -/
structure Lc (w W : World) (hb rb mb pb n : Nat) (g : Mem) (P : Pcs) (ls cs : List Int) (V : Value) (c : Int) : Prop where
  hp : Hp W hb rb mb pb n g c P
  ct : Cst n g P cs
  os : Is W w.heap.size V ls
  nb : w.heap.size ≤ hb ∧ w.heap.size ≤ rb ∧ w.heap.size ≤ mb ∧ w.heap.size ≤ pb ∧ 0 < w.heap.size
  kp : Kp w W []
section
variable {w W W' : World} {hb rb mb pb n : Nat} {g g' : Mem} {P P' : Pcs} {ls cs cs' ls' : List Int} {V V' : Value} {c k : Int}
theorem Lc.off (h : Lc w W hb rb mb pb n g P ls cs V c) : ∀ gb, V.ownBlock = some gb → gb ≠ hb ∧ gb ≠ rb ∧ gb ≠ mb ∧ gb ≠ pb ∧ gb ≠ 0 := by
  intro gb hg
  obtain ⟨h1, cur, h2⟩ := owns_block h.os hg
  have hh := h.hp.hh
  obtain ⟨f, ⟨cap, cur', hr, hm, -⟩, -⟩ := h.hp.aw
  obtain ⟨es, clock, hp, -⟩ := h.hp.mp
  refine ⟨fun e => block_ne hh h2 (by decide) e.symm, fun e => block_ne hr h2 (by decide) e.symm, fun e => block_ne hm h2 (by decide) e.symm, ?_, by have := h.nb; omega⟩
  rintro rfl
  rw [h2] at hp
  cases hp
theorem Lc.same (h : Lc w W hb rb mb pb n g P ls cs V c) (hk : Kp W W' []) : Lc w W' hb rb mb pb n g P ls cs V c :=
  ⟨h.hp.same hk, h.ct, h.os.keep hk, h.nb, h.kp.trans hk⟩
theorem Lc.went (h : Lc w W hb rb mb pb n g P ls cs V c) (hw : Went W W' hb rb mb pb n g' P' c k [rb, mb, pb]) (hc : Cst n g' P' cs') : ∃ c', c ≤ c' ∧ c' ≤ c + k ∧ Lc w W' hb rb mb pb n g' P' ls cs' V c' := by
  obtain ⟨c', h1, h2, hH, hK⟩ := hw
  refine ⟨c', h1, h2, hH, hc, h.os.kp hK fun gb hg => ?_, h.nb, h.kp.past hK ?_⟩
  · have := h.off gb hg
    simp; omega
  · intro j hj hl
    have := h.nb
    simp at hj
    omega
theorem Lc.reset (h : Lc w W hb rb mb pb n g P ls cs V c) (hH : Hp W' hb rb mb pb n g 0 P) (hK : Kp W W' [rb]) : Lc w W' hb rb mb pb n g P ls cs V 0 := by
  refine ⟨hH, h.ct, h.os.kp hK fun gb hg => ?_, h.nb, h.kp.past hK ?_⟩
  · have := h.off gb hg
    simp; omega
  · intro j hj hl
    have := h.nb
    simp at hj
    omega
theorem Lc.push {o : Obj} (h : Lc w W hb rb mb pb n g P ls cs V c) (hG : (W.alloc o).grownBy W' V.ownBlock) (hI : Is W' w.heap.size V' ls') : Lc w W' hb rb mb pb n g P ls' cs V' c := by
  have h1 := h.same (Kp.alloc W o [])
  have hK : Kp (W.alloc o) W' V.ownBlock.toList := Kp.ofGrown hG (by intro g hg; simp [hg])
  have ho := h1.off
  refine ⟨h1.hp.keep hK ?_ ?_ ?_ ?_ ?_, h.ct, hI, h.nb, grown_kp h.os hG h.kp (Nat.le_refl _)⟩
  all_goals (intro hm; simp at hm; have := ho _ hm; omega)
theorem Lc.fresh (h : Lc w W hb rb mb pb n g P ls cs V c) (hK : Kp W W' []) (hI : Is W' w.heap.size V' ls') : Lc w W' hb rb mb pb n g P ls' cs V' c :=
  ⟨h.hp.same hK, h.ct, hI, h.nb, h.kp.trans hK⟩
end

theorem hreset_ok (w : World) (hb rb mb pb n : Nat) (g : Mem) (c : Int) (P : Pcs) (h : Hp w hb rb mb pb n g c P) :
    Calls Tryz.prog 17 #[.pointer (some ⟨rb, 0, none⟩)] w fun e w' => e = .returned (.int .i64 c) ∧ Hp w' hb rb mb pb n g 0 P ∧ Kp w w' [rb] := by
  obtain ⟨f, ha, hg⟩ := h.aw
  refine (reset_ok w rb mb n f c ha).mono ?_
  rintro e w' ⟨rfl, ha', hk⟩
  exact ⟨rfl, h.turn (hk.mono (by simp)) ⟨f, ha', hg⟩ (by omega), hk⟩
theorem hcost_ok (w : World) (hb rb mb pb n : Nat) (g : Mem) (c : Int) (P : Pcs) (h : Hp w hb rb mb pb n g c P) :
    Calls Tryz.prog 22 #[.pointer (some ⟨rb, 0, none⟩)] w fun e w' => e = .returned (.int .i64 c) ∧ w' = w := by
  obtain ⟨f, ha, hg⟩ := h.aw
  exact cost_ok w rb mb n f c ha
end Go.Proofs.YtgefmnnkpffpcaaGreatDoor
