/- The reference's bytes: Get. -/
import Derived.Test.YtgefmnnkpffpcaaGreatDoorRheap
import Derived.Test.YtgefmnnkpffpcaaGreatDoorRfree
import Derived.Test.YtgefmnnkpffpcaaGreatDoorRlookJ
import Derived.Test.YtgefmnnkpffpcaaGreatDoorHalign2
namespace Go.Proofs.YtgefmnnkpffpcaaGreatDoor
open Go.RowKit Go.Maps

/-- The bytes in block mb: n of them, f j the j-th. -/
structure Mb (w : World) (mb n : Nat) (f : Nat → Nat) : Prop where
  blk : ∃ cur, w.heap[mb]? = some (.cells cur 5 (0, 0)) ∧ cur.size = n ∧ ∀ j, j < n → cur[j]? = some (.int .u8 (f j))
  by8 : ∀ j, f j < 256
abbrev mslice (mb n : Nat) : Value := .slice (some ⟨mb, 0, none⟩) n n
theorem Mb.at {w : World} {mb n : Nat} {f : Nat → Nat} (h : Mb w mb n f) {j : Nat} (hj : j < n) : w.cell? ⟨mb, j, none⟩ = some (.int .u8 (f j)) := by
  obtain ⟨cur, h1, -, h3⟩ := h.blk
  simp only [World.cell?, h1, Option.isSome_none, Bool.false_eq_true, if_false]
  exact h3 j hj
theorem Mb.free {w : World} {mb n : Nat} {f : Nat → Nat} (h : Mb w mb n f) (j : Nat) : w.frozen? ⟨mb, j, none⟩ = false := by
  obtain ⟨cur, h1, -, -⟩ := h.blk
  simp [World.frozen?, h1]
theorem Mb.keep {w w' : World} {mb n : Nat} {f : Nat → Nat} (h : Mb w mb n f) {rows : List Nat} (hk : Kp w w' rows) (hr : mb ∉ rows) : Mb w' mb n f := by
  obtain ⟨cur, h1, h2, h3⟩ := h.blk
  exact ⟨⟨cur, (hk.block mb (lt_of_block h1) hr).trans h1, h2, h3⟩, h.by8⟩
/-- The word of the m upper bytes of four. -/
def upW (f : Nat → Nat) (o : Nat) : Nat → Nat
  | 0 => 0
  | m + 1 => upW f o m * 256 + f (o + (3 - m))
theorem upW_lt {f : Nat → Nat} (h : ∀ j, f j < 256) (o : Nat) : upW f o 0 = 0 ∧ upW f o 1 < 256 ∧ upW f o 2 < 65536 ∧ upW f o 3 < 16777216 ∧ upW f o 4 < 4294967296 := by
  have h0 := h (o + 3); have h1 := h (o + 2); have h2 := h (o + 1); have h3 := h o
  simp [upW]
  omega
set_option maxRecDepth 100000 in
theorem rget_any (w : World) (hb mb n : Nat) (V : Value) (G : Nat → Value) (B : List Bl) (F : Nat → List Int) (f : Nat → Nat) (o : Nat) (h : Rh w hb V G (mslice mb n) B F) (hM : Mb w mb n f) (ho : o + 4 ≤ n) (hn : n ≤ 65536) :
    Calls Tryz.prog 14 #[.pointer (some ⟨hb, 0, none⟩), .int .i64 o] w fun e w' => e = .returned (.int .u32 (upW f o 4)) ∧ w' = w := by
  have cm := h.m
  have HM := hid hM
  have HU := hid (upW_lt hM.by8 o)
  clear h hM
  go_enter Tryz.func14, Tryz.ntmps14
  go_wp2_with fail
  go_loopw [5, 6] (fun vw vk wr => ∃ m : Nat, m ≤ 4 ∧ vw = .int .u32 (upW f o m) ∧ vk = .int .i64 (3 - (m : Int)) ∧ wr = w) (fun _ vk _ => (intOf vk + 1).toNat)
  case atStart => exact ⟨0, by omega, rfl, rfl, rfl⟩
  case round =>
    obtain ⟨m, hm, rfl, rfl, rfl⟩ := hrel
    by_cases hlt : m < 4
    · have hj : o + (3 - m) < n := by omega
      have cb := HM.out.at hj
      have hb8 := HM.out.by8 (o + (3 - m))
      have HE := hid (show upW f o (m + 1) = upW f o m * 256 + f (o + (3 - m)) from rfl)
      obtain ⟨x, hx⟩ : ∃ x, upW f o m = x := ⟨_, rfl⟩
      have hxl : x < 16777216 := by
        obtain ⟨u0, u1, u2, u3, -⟩ := HU.out
        have : m = 0 ∨ m = 1 ∨ m = 2 ∨ m = 3 := by omega
        rcases this with e | e | e | e <;> subst e <;> omega
      obtain ⟨k, hk⟩ : ∃ k, 3 - m = k := ⟨_, rfl⟩
      have hkm : (3 : Int) - m = (k : Int) := by omega
      obtain ⟨y, hy⟩ : ∃ y, f (o + k) = y := ⟨_, rfl⟩
      obtain ⟨q, hq⟩ : ∃ q, o + k = q := ⟨_, rfl⟩
      rw [hk, hq] at cb hb8 HE
      rw [hq] at hy
      rw [hy] at cb hb8 HE
      rw [hx] at HE ⊢
      rw [hkm]
      have hwk : IntKind.i64.wrap ((o : Int) + k) = (q : Int) := by rw [← hq]; exact IntWalk.i64_in _ ⟨by omega, by omega⟩
      have hqn : (q : Int) < n := by omega
      have hk1 : IntKind.i64.wrap ((k : Int) - 1) = 3 - ((m + 1 : Nat) : Int) := by rw [show (k : Int) - 1 = 3 - ((m + 1 : Nat) : Int) by omega]; exact IntWalk.i64_in _ ⟨by omega, by omega⟩
      have hw1 : IntKind.u32.wrap ((x : Int) * 256) = (x : Int) * 256 := IntWalk.u32_in _ ⟨by omega, by omega⟩
      have hw2 : IntKind.u32.wrap ((x : Int) * 256 + y) = (x : Int) * 256 + y := IntWalk.u32_in _ ⟨by omega, by omega⟩
      have hw3 : IntKind.u32.wrap (y : Int) = (y : Int) := IntWalk.u32_in _ ⟨by omega, by omega⟩
      have HQ := hid (And.intro hk1 hkm)
      clear hx hy hq hk
      go_wp2
      go_roundw
      case rel => exact ⟨m + 1, by omega, by rw [HE.out]; simp, by simp, trivial⟩
      case measure => simp [intOf]; omega
    · obtain rfl : m = 4 := by omega
      go_wp2
      go_ret
      exact ⟨rfl, rfl⟩
end Go.Proofs.YtgefmnnkpffpcaaGreatDoor

/- The reference's bytes: Set. -/
namespace Go.Proofs.YtgefmnnkpffpcaaGreatDoor
open Go.RowKit Go.Maps

def putF (f : Nat → Nat) (j b : Nat) : Nat → Nat := fun i => if i = j then b else f i
theorem Mb.set {w : World} {mb n : Nat} {f : Nat → Nat} (h : Mb w mb n f) {j b : Nat} (hj : j < n) (hb : b < 256) : Mb (w.setCell ⟨mb, j, none⟩ (.int .u8 b)) mb n (putF f j b) := by
  obtain ⟨cur, h1, h2, h3⟩ := h.blk
  refine ⟨⟨_, heap_setCell_same w mb j _ 5 (.int .u8 b) h1, by simp [h2], fun i hi => ?_⟩, fun i => ?_⟩
  · unfold putF
    rw [Array.getElem?_setIfInBounds]
    by_cases e : j = i
    · subst e
      rw [if_pos rfl, if_pos (by omega), if_pos rfl]
    · rw [if_neg e, if_neg (fun q => e q.symm)]
      exact h3 i hi
  · unfold putF
    split
    · exact hb
    · exact h.by8 i
/-- The bytes, with the m lower bytes of a word laid from o on. -/
def setF (f : Nat → Nat) (o W : Nat) : Nat → Nat → Nat
  | 0 => f
  | m + 1 => putF (setF f o W m) (o + m) (W / 256 ^ m % 256)
theorem Rh.bytes {w w' : World} {hb mb n : Nat} {V mv : Value} {G : Nat → Value} {B : List Bl} {F : Nat → List Int} {f : Nat → Nat} (h : Rh w hb V G mv B F) (hM : Mb w mb n f) (hk : Kp w w' [mb]) : Rh w' hb V G mv B F := by
  obtain ⟨cur, h1, -, -⟩ := hM.blk
  refine h.keep hk ?_ (fun g hg => ?_) (fun c g hc hg => ?_)
  · have := block_ne h.blk h1 (by decide)
    simpa using this
  · obtain ⟨-, c', hc'⟩ := owns_block h.row hg
    have := block_ne hc' h1 (by decide)
    simpa using this
  · obtain ⟨-, c', hc'⟩ := owns_block (h.lst c hc) hg
    have := block_ne hc' h1 (by decide)
    simpa using this
set_option maxRecDepth 100000 in
theorem rset_any (w : World) (hb mb n : Nat) (V : Value) (G : Nat → Value) (B : List Bl) (F : Nat → List Int) (f : Nat → Nat) (o W : Nat) (h : Rh w hb V G (mslice mb n) B F) (hM : Mb w mb n f) (ho : o + 4 ≤ n) (hn : n ≤ 65536) (hW : W < 4294967296) :
    Calls Tryz.prog 42 #[.pointer (some ⟨hb, 0, none⟩), .int .i64 o, .int .u32 W] w fun e w' => e = .returned (.tuple #[]) ∧ Mb w' mb n (setF f o W 4) ∧ Kp w w' [mb] := by
  have H := hid h
  have HM := hid hM
  clear h hM
  go_enter Tryz.func42, Tryz.ntmps42
  go_wp2_with fail
  go_loopw [2, 6] (fun vw vk wr => ∃ m : Nat, m ≤ 4 ∧ vw = .int .u32 ((W / 256 ^ m : Nat) : Int) ∧ vk = .int .i64 m ∧ Hid (Mb wr mb n (setF f o W m)) ∧ Hid (Kp w wr [mb])) (fun _ vk _ => (4 - intOf vk).toNat)
  case atStart => exact ⟨0, by omega, by simp, rfl, HM, hid (Kp.refl _ _)⟩
  case round =>
    obtain ⟨m, hm, rfl, rfl, hN, hK⟩ := hrel
    rename_i wr
    by_cases hlt : m < 4
    · have cm := (H.out.bytes HM.out hK.out).m
      obtain ⟨q, hq⟩ : ∃ q, o + m = q := ⟨_, rfl⟩
      have hqn : q < n := by omega
      have cb := hN.out.at hqn
      have fb := hN.out.free q
      obtain ⟨x, hx⟩ : ∃ x, W / 256 ^ m = x := ⟨_, rfl⟩
      have hx1 : W / 256 ^ (m + 1) = x / 256 := by rw [Nat.pow_succ, ← Nat.div_div_eq_div_mul, hx]
      have hxl : x < 4294967296 := by rw [← hx]; exact Nat.lt_of_le_of_lt (Nat.div_le_self _ _) hW
      rw [hx]
      have hwk : IntKind.i64.wrap ((o : Int) + m) = (q : Int) := by rw [← hq]; exact IntWalk.i64_in _ ⟨by omega, by omega⟩
      have hqI : (q : Int) < n := by omega
      have hN2 := hid (show Mb (wr.setCell ⟨mb, q, none⟩ (.int .u8 ((x % 256 : Nat) : Int))) mb n (setF f o W (m + 1)) by
        have := hN.out.set hqn (Nat.mod_lt x (by decide) : x % 256 < 256)
        unfold setF
        rw [hx, hq]
        exact this)
      have HX := hid hx1
      clear hx hx1 hq
      go_wp2
      go_roundw
      case rel => exact ⟨m + 1, by omega, by rw [HX.out]; simp, by simp, hN2, hid (hK.out.trans (Kp.setCell _ _ _))⟩
      case measure => simp [intOf]; omega
    · obtain rfl : m = 4 := by omega
      go_wp2
      try rw [Exit.noGoto_normal]
      refine bodyPost_end (results_none rfl _ _ _) rfl ?_
      exact ⟨rfl, hN.out, hK.out⟩
end Go.Proofs.YtgefmnnkpffpcaaGreatDoor

/- The reference: piece, Free, Size. -/
namespace Go.Proofs.YtgefmnnkpffpcaaGreatDoor
open Go.RowKit Go.Maps

section
variable {w : World} {hb : Nat} {V mv : Value} {G : Nat → Value} {B : List Bl} {F : Nat → List Int} {o z : Int} {i : Nat}
set_option maxRecDepth 100000 in
theorem rpiece_yes (h : Rh w hb V G mv B F) (hl : B.length ≤ 100000) (ho : 8 ≤ o) (ho2 : o < 9223372036854775808) (hi : i < B.length) (e : B[i]! = (o - 8, z, false)) (hu : ∀ j, j < B.length → B[j]!.1 = o - 8 → j = i) :
    Calls Tryz.prog 81 #[.pointer (some ⟨hb, 0, none⟩), .int .i64 o] w fun e w' => e = .returned (.int .i64 i) ∧ w' = w := by
  have HN := hid (rnumber_any w hb V mv G B F (o - 8) h hl)
  have cc := h.b
  obtain ⟨ao, cap, rfl⟩ := h.row.slice
  obtain ⟨g, rfl, -, -, c3, -, -, -⟩ := h.row.at hi e
  obtain ⟨N, hN⟩ : ∃ N, B.length = N := ⟨_, rfl⟩
  rw [hN] at cc
  have hiN : (i : Int) < N := by omega
  have hw : IntKind.i64.wrap (o - 8) = o - 8 := IntWalk.i64_in _ ⟨by omega, by omega⟩
  have HU := hid (show ∀ r, Fd B (o - 8) r → r = (i : Int) from fun r q => by
    rcases q with ⟨-, q⟩ | ⟨j, rfl, h1, h2⟩
    · exact absurd (by rw [e]) (q i hi)
    · rw [hu j h1 h2])
  clear h e hu hN hl hi
  go_enter Tryz.func81, Tryz.ntmps81
  go_wp2_with fail
  refine HN.out.mono ?_
  rintro e w1 ⟨r, rfl, hr, rfl⟩
  obtain rfl := HU.out r hr
  clear hr
  go_wp2
  go_ret
  exact ⟨rfl, rfl⟩
set_option maxRecDepth 100000 in
theorem rpiece_no (h : Rh w hb V G mv B F) (hl : B.length ≤ 100000) (ho2 : o < 9223372036854775808) (hn : ∀ j, j < B.length → B[j]!.1 = o - 8 → B[j]!.2.2 = true) :
    Calls Tryz.prog 81 #[.pointer (some ⟨hb, 0, none⟩), .int .i64 o] w fun e w' => e = .returned (.int .i64 (-1)) ∧ w' = w := by
  by_cases h8 : o < 8
  · clear h hn hl
    go_enter Tryz.func81, Tryz.ntmps81
    go_wp2
    go_ret
    exact ⟨rfl, rfl⟩
  · have HN := hid (rnumber_any w hb V mv G B F (o - 8) h hl)
    have cc := h.b
    obtain ⟨ao, cap, rfl⟩ := h.row.slice
    obtain ⟨N, hN⟩ : ∃ N, B.length = N := ⟨_, rfl⟩
    rw [hN] at cc
    have hw : IntKind.i64.wrap (o - 8) = o - 8 := IntWalk.i64_in _ ⟨by omega, by omega⟩
    have H := hid h
    have HL := hid (And.intro hN hl)
    have HH := hid hn
    clear h hn hN hl
    go_enter Tryz.func81, Tryz.ntmps81
    go_wp2_with fail
    refine HN.out.mono ?_
    rintro e w1 ⟨r, rfl, hr, rfl⟩
    rcases hr with ⟨rfl, -⟩ | ⟨i, rfl, h1, h2⟩
    · go_wp2
      go_ret
      exact ⟨rfl, rfl⟩
    · obtain ⟨g, rfl, -, -, c3, -, -, -⟩ := H.out.row.at h1 (show B[i]! = (B[i]!.1, B[i]!.2.1, true) by rw [← HH.out i h1 h2])
      have hiN : (i : Int) < N := by have := HL.out.1; omega
      clear h1 h2
      go_wp2
      go_ret
      exact ⟨rfl, rfl⟩
set_option maxRecDepth 100000 in
theorem rsize_no (h : Rh w hb V G mv B F) (hl : B.length ≤ 100000) (ho2 : o < 9223372036854775808) (hn : ∀ j, j < B.length → B[j]!.1 = o - 8 → B[j]!.2.2 = true) :
    Calls Tryz.prog 39 #[.pointer (some ⟨hb, 0, none⟩), .int .i64 o] w fun e w' => e = .returned (.tuple #[.int .i64 0, .int .i64 6]) ∧ w' = w := by
  have HP := hid (rpiece_no h hl ho2 hn)
  clear h hl hn
  go_enter Tryz.func39, Tryz.ntmps39
  go_wp2_with fail
  refine HP.out.mono ?_
  rintro e w1 ⟨rfl, rfl⟩
  go_wp2
  go_ret2
  exact ⟨rfl, rfl⟩
set_option maxRecDepth 100000 in
theorem rsize_yes (h : Rh w hb V G mv B F) (hl : B.length ≤ 100000) (ho : 8 ≤ o) (ho2 : o < 9223372036854775808) (hi : i < B.length) (e : B[i]! = (o - 8, z, false)) (hu : ∀ j, j < B.length → B[j]!.1 = o - 8 → j = i) (hz : 0 ≤ z) (hz2 : z ≤ 1000000) :
    Calls Tryz.prog 39 #[.pointer (some ⟨hb, 0, none⟩), .int .i64 o] w fun e w' => e = .returned (.tuple #[.int .i64 (z - 8), .int .i64 0]) ∧ w' = w := by
  have HP := hid (rpiece_yes h hl ho ho2 hi e hu)
  have cc := h.b
  obtain ⟨ao, cap, rfl⟩ := h.row.slice
  obtain ⟨g, rfl, -, c2, -, -, -, -⟩ := h.row.at hi e
  obtain ⟨N, hN⟩ : ∃ N, B.length = N := ⟨_, rfl⟩
  rw [hN] at cc
  have hiN : (i : Int) < N := by omega
  have hw : IntKind.i64.wrap (z - 8) = z - 8 := IntWalk.i64_in _ ⟨by omega, by omega⟩
  clear h e hu hN hl hi
  go_enter Tryz.func39, Tryz.ntmps39
  go_wp2_with fail
  refine HP.out.mono ?_
  rintro e w1 ⟨rfl, rfl⟩
  go_wp2
  go_ret2
  exact ⟨rfl, rfl⟩
set_option maxRecDepth 100000 in
theorem rFree_no (h : Rh w hb V G mv B F) (hl : B.length ≤ 100000) (ho2 : o < 9223372036854775808) (hn : ∀ j, j < B.length → B[j]!.1 = o - 8 → B[j]!.2.2 = true) :
    Calls Tryz.prog 38 #[.pointer (some ⟨hb, 0, none⟩), .int .i64 o] w fun e w' => e = .returned (.int .i64 6) ∧ w' = w := by
  have HP := hid (rpiece_no h hl ho2 hn)
  clear h hl hn
  go_enter Tryz.func38, Tryz.ntmps38
  go_wp2_with fail
  refine HP.out.mono ?_
  rintro e w1 ⟨rfl, rfl⟩
  go_wp2
  go_ret
  exact ⟨rfl, rfl⟩
end
set_option maxRecDepth 100000 in
theorem rFree_yes (w : World) (hb : Nat) (V mv : Value) (G : Nat → Value) (A r : List Bl) (F : Nat → List Int) (a z : Int) (h : Rh w hb V G mv (A ++ (a, z, false) :: r) F) (hl : (A ++ (a, z, false) :: r).length ≤ 100000) (h16 : ∀ x ∈ A ++ (a, z, false) :: r, 16 ≤ x.2.1) (hm : szs (A ++ (a, z, false) :: r) + 32 < 65536) (hF : ∀ c, (F c).length ≤ 10000) (ha : 0 ≤ a) (ha2 : a ≤ 1000000) (hu : ∀ j, j < (A ++ (a, z, false) :: r).length → (A ++ (a, z, false) :: r)[j]!.1 = a → j = A.length) :
    Calls Tryz.prog 38 #[.pointer (some ⟨hb, 0, none⟩), .int .i64 (a + 8)] w fun e w' => e = .returned (.int .i64 0) ∧ Rg w w' hb V G mv (freedX A a z r F).1 (freedX A a z r F).2 := by
  have e8 : a + 8 - 8 = a := by omega
  have HP := hid (rpiece_yes (o := a + 8) (z := z) (i := A.length) h hl (by omega) (by omega) (by simp) (by rw [e8]; exact mid_at _ _ _) (by rw [e8]; exact hu))
  have HR := hid (rfree_any w hb V mv G A r F a z false A.length h rfl hl h16 hm hF)
  obtain ⟨n, hn⟩ : ∃ n, A.length = n := ⟨_, rfl⟩
  rw [hn] at HP HR
  clear h hl h16 hm hF hu hn e8
  go_enter Tryz.func38, Tryz.ntmps38
  go_wp2_with fail
  refine HP.out.mono ?_
  rintro e w1 ⟨rfl, rfl⟩
  go_wp2_with fail
  refine HR.out.mono ?_
  rintro e w2 ⟨rfl, hR⟩
  have H2 := hid hR
  clear hR
  go_wp2
  go_ret
  exact ⟨rfl, H2.out⟩
end Go.Proofs.YtgefmnnkpffpcaaGreatDoor

/- Both heaps' calls side by side: what one that allocates answers, and what stands then. -/
namespace Go.Proofs.YtgefmnnkpffpcaaGreatDoor
open Go.RowKit Go.Maps

/-- The words within pieces are the same, but at X. -/
def Ag (f : Nat → Nat) (g : Mem) (P : Pcs) (X : Nat → Prop) : Prop := ∀ o : Nat, o % 4 = 0 → inQ P o → ¬ X o → (upW f o 4 : Int) = g o
/-- What a call leaves of the reference and its bytes. -/
def Rm (w w' : World) (xb eb n : Nat) (V : Value) (G : Nat → Value) (B : List Bl) (F : Nat → List Int) (f : Nat → Nat) : Prop :=
  ∃ V' G', Rh w' xb V' G' (mslice eb n) B F ∧ Mb w' eb n f ∧ Kp w w' (xb :: eb :: V.ownBlock.toList) ∧ Nw w V V' G G'
section
variable {w w' w'' : World} {hb rb mb pb xb eb n : Nat} {V : Value} {G : Nat → Value} {B B' : List Bl} {F F' : Nat → List Int} {f : Nat → Nat} {g : Mem} {P : Pcs} {c k k' : Int}
theorem Rh.bne (h : Rh w xb V G (mslice eb n) B F) (hM : Mb w eb n f) : eb ≠ xb ∧ ∀ g, V.ownBlock = some g → g ≠ eb := by
  obtain ⟨cur, h1, -, -⟩ := hM.blk
  refine ⟨fun e => block_ne h.blk h1 (by decide) e.symm, fun g hg => ?_⟩
  obtain ⟨-, c', hc'⟩ := owns_block h.row hg
  exact block_ne hc' h1 (by decide)
theorem Rm.of (h : Rh w xb V G (mslice eb n) B F) (hM : Mb w eb n f) (hg : Rg w w' xb V G (mslice eb n) B' F') : Rm w w' xb eb n V G B' F' f := by
  obtain ⟨V', G', a, k, q⟩ := hg
  have hne := h.bne hM
  refine ⟨V', G', a, hM.keep k ?_, k.mono ?_, q⟩
  · simp only [List.mem_cons, Option.mem_toList, not_or]
    exact ⟨hne.1, fun e => hne.2 _ e rfl⟩
  · intro x hx _
    simp only [List.mem_cons, Option.mem_toList] at hx ⊢
    rcases hx with e | e
    · exact .inl e
    · exact .inr (.inr e)
theorem Rm.same (h : Rh w xb V G (mslice eb n) B F) (hM : Mb w eb n f) (hk : Kp w w' []) : Rm w w' xb eb n V G B F f :=
  ⟨V, G, h.same hk, hM.keep hk (by simp), hk.mono (by simp), Nw.refl⟩
theorem Rm.past {w1 w2 : World} {V1 : Value} {G1 : Nat → Value} (hk : Kp w w1 (xb :: eb :: V.ownBlock.toList)) (hv : Nw w V V1 G G1) (h : Rm w1 w2 xb eb n V1 G1 B F f) : Rm w w2 xb eb n V G B F f := by
  obtain ⟨V2, G2, a, m, b, c⟩ := h
  refine ⟨V2, G2, a, m, hk.past b ?_, hv.trans hk.size c⟩
  intro k hm hl
  simp only [List.mem_cons, Option.mem_toList] at hm ⊢
  rcases hm with q | q | q
  · exact .inl q
  · exact .inr (.inl q)
  · rcases hv.1 k q with q | q
    · exact .inr (.inr q)
    · omega
theorem Went.same (h : Hp w hb rb mb pb n g c P) (hk : Kp w w' []) (h0 : 0 ≤ k) : Went w w' hb rb mb pb n g P c k [rb, mb, pb] := ⟨c, by omega, by omega, h.same hk, hk.mono (by simp)⟩
theorem Went.more {rows : List Nat} (h : Went w w' hb rb mb pb n g P c k rows) (hr : ∀ x ∈ rows, x ∈ [rb, mb, pb]) (hk : k ≤ k') : Went w w' hb rb mb pb n g P c k' [rb, mb, pb] := by
  obtain ⟨c', h1, h2, h3, h4⟩ := h
  exact ⟨c', h1, by omega, h3, h4.mono (fun x hx _ => hr x hx)⟩
theorem ag_of {f f' : Nat → Nat} {g g' : Mem} {P P' : Pcs} {X X' : Nat → Prop} (h : Ag f g P X) (hi : ∀ o : Nat, inQ P' o → ¬ X' o → (inQ P o ∧ ¬ X o ∧ f' = f ∧ g' o = g o)) : Ag f' g' P' X' := fun o h4 hq hx => by
  obtain ⟨q1, q2, rfl, q4⟩ := hi o hq hx
  rw [q4]
  exact h o h4 q1 q2
end
/-- What a call that allocates answers, on both sides, and what stands behind it. -/
def Tw (n : Nat) (g : Mem) (L : List Bl) (F : Nat → List Int) (f : Nat → Nat) (fp fr : Nat) (ar : Value → Array Value) (was : Int) : Prop :=
  ∃ (a er : Int) (g' : Mem) (L' : List Bl) (F' : Nat → List Int) (f' : Nat → Nat),
    Hs n g' L' F' ∧ 0 ≤ a ∧ a ≤ 65536 ∧ 0 ≤ er ∧ er ≤ 10 ∧
    ((er = 0 ∧ ∃ z, (a - 8, z, false) ∈ L' ∧ Ag f' g' (piecesOf L') (fun o => a + was ≤ (o : Int) ∧ (o : Int) < a - 8 + z)) ∨ (er ≠ 0 ∧ Ag f' g' (piecesOf L') (fun _ => False))) ∧
    (∀ w hb rb mb pb c, Hp w hb rb mb pb n g c (piecesOf L) → c ≤ 1000000000000000 → Calls Tryz.prog fp (ar (.pointer (some ⟨hb, 0, none⟩))) w fun e w' => e = .returned (.tuple #[.int .i64 a, .int .i64 er]) ∧ Went w w' hb rb mb pb n g' (piecesOf L') c 100 [rb, mb, pb]) ∧
    (∀ w xb eb V G, Rh w xb V G (mslice eb n) L F → Mb w eb n f → Calls Tryz.prog fr (ar (.pointer (some ⟨xb, 0, none⟩))) w fun e w' => e = .returned (.tuple #[.int .i64 a, .int .i64 er]) ∧ Rm w w' xb eb n V G L' F' f')
/-- Nothing was given. -/
theorem Tw.none {n : Nat} {g : Mem} {L : List Bl} {F : Nat → List Int} {f : Nat → Nat} {fp fr : Nat} {ar : Value → Array Value} {was er : Int} (h : Hs n g L F) (ha : Ag f g (piecesOf L) (fun _ => False)) (h0 : 0 < er) (h1 : er ≤ 10)
    (hp : ∀ w hb rb mb pb c, Hp w hb rb mb pb n g c (piecesOf L) → c ≤ 1000000000000000 → Calls Tryz.prog fp (ar (.pointer (some ⟨hb, 0, none⟩))) w fun e w' => e = .returned (.tuple #[.int .i64 0, .int .i64 er]) ∧ Went w w' hb rb mb pb n g (piecesOf L) c 100 [rb, mb, pb])
    (hr : ∀ w xb V G eb, Rh w xb V G (mslice eb n) L F → Calls Tryz.prog fr (ar (.pointer (some ⟨xb, 0, none⟩))) w fun e w' => e = .returned (.tuple #[.int .i64 0, .int .i64 er]) ∧ w' = w) : Tw n g L F f fp fr ar was :=
  ⟨0, er, g, L, F, f, h, by omega, by omega, by omega, by omega, .inr ⟨by omega, ha⟩, hp, fun w xb eb V G hh hM => (hr w xb V G eb hh).mono fun e w' q => ⟨q.1, by rw [q.2]; exact Rm.same hh hM (Kp.refl _ _)⟩⟩
end Go.Proofs.YtgefmnnkpffpcaaGreatDoor
