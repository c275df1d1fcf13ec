/- word and setWord: a word of the heap's arena, or nothing where there is none. -/
import Derived.Test.YtgefmnnkpffpcaaGreatDoorLookJ
import Derived.Lib.BitFns
import Derived.Shelf.Small.Bits
import Derived.Ground.GgzProg
import Derived.Ground.SlgmProg
import Derived.Shelf.SortM.Plain
import Derived.Shelf.SortM.SortNone
import Derived.Shelf.SlIterI.Nil
import Derived.Test.YtgefmnnkpffpcaaGreatDoorProg
namespace Go.Proofs.YtgefmnnkpffpcaaGreatDoor
open Go.RowKit Go.Maps

/-- Behind a call: the heap's words and pieces, what it cost at most, what else may have changed. -/
def Went (w w' : World) (hb rb mb pb n : Nat) (g : Mem) (P : Pcs) (c k : Int) (rows : List Nat) : Prop :=
  ∃ c', c ≤ c' ∧ c' ≤ c + k ∧ Hp w' hb rb mb pb n g c' P ∧ Kp w w' rows

theorem upd_words {f : Nat → Int} {g : Mem} {n o : Nat} {x : Int} (hg : ∀ p, p % 4 = 0 → p + 4 ≤ n → wordAt f p = g p) (ho : o % 4 = 0) :
    ∀ p, p % 4 = 0 → p + 4 ≤ n → wordAt (over f o (bytes4 x)) p = upd g o x p := by
  intro p hp hn
  rw [over_word ho hp]
  unfold upd
  by_cases h : p = o
  · rw [if_pos h, if_pos h]
  · rw [if_neg h, if_neg h, hg p hp hn]

set_option maxRecDepth 100000 in
theorem word_any (w : World) (hb rb mb pb n : Nat) (g : Mem) (c : Int) (P : Pcs) (o : Int) (h : Hp w hb rb mb pb n g c P) (hc : c < 4611686018427387904) (h4 : o ≤ 9223372036854775807) :
    Calls Tryz.prog 73 #[.pointer (some ⟨hb, 0, none⟩), .int .i64 o] w fun e w' => e = .returned (.int .i64 (rd n g o)) ∧ Went w w' hb rb mb pb n g P c 1 [rb] := by
  have hc0 := h.c0cell
  have hcc := h.c0
  have hn := h.nb
  have H := hid h
  obtain ⟨f, ha, hg⟩ := h.aw
  have HA := hid ha
  have HG := hid hg
  clear h ha hg
  by_cases hw : hasW n o = true
  · have hr := hid (show rd n g o = wordAt f o.toNat by
      unfold rd; rw [if_pos hw]; have := of_decide_eq_true hw; exact (HG.out _ (by omega) (by omega)).symm)
    have hd := of_decide_eq_true hw
    obtain ⟨o', rfl⟩ := Int.eq_ofNat_of_zero_le hd.1
    obtain ⟨-, hd1, hd2⟩ := hd
    have hrange := wordAt_range (o := o') HA.out.byte (by omega)
    clear hw
    go_enter Tryz.func73, Tryz.ntmps73
    go_wp2_with fail
    refine (get_ok w rb mb n o' f c HA.out hn hcc (by omega) (by omega) (by omega)).mono ?_
    rintro e w1 ⟨rfl, hA1, hK1⟩
    have HA1 := hid hA1
    have HK1 := hid hK1
    clear hA1 hK1 hc0
    go_wp2
    go_ret
    refine ⟨by rw [hr.out]; rfl, c + 1, by omega, by omega, H.out.turn (HK1.out.mono (by simp)) ⟨f, HA1.out, HG.out⟩ (by omega), HK1.out⟩
  · have hw' : hasW n o = false := by simpa using hw
    have hr := hid (show rd n g o = 0 by unfold rd; rw [hw']; rfl)
    clear hw
    have HW := hid hw'
    clear hw'
    go_enter Tryz.func73, Tryz.ntmps73
    go_wp2_with fail
    refine (get_no w rb mb n f c o HA.out hn h4 HW.out).mono ?_
    rintro e w1 ⟨rfl, hK1⟩
    have HK1 := hid hK1
    clear hK1 hc0
    go_wp2
    go_ret
    exact ⟨by rw [hr.out]; rfl, c, by omega, by omega, H.out.same HK1.out, HK1.out.nil⟩

set_option maxRecDepth 100000 in
theorem setWord_any (w : World) (hb rb mb pb n : Nat) (g : Mem) (c : Int) (P : Pcs) (o x : Int) (h : Hp w hb rb mb pb n g c P) (hc : c < 4611686018427387904) (h4 : o ≤ 9223372036854775807) (hx0 : 0 ≤ x) (hx1 : x < 4294967296) :
    Calls Tryz.prog 103 #[.pointer (some ⟨hb, 0, none⟩), .int .i64 o, .int .i64 x] w fun e w' => e = .returned (.tuple #[]) ∧ Went w w' hb rb mb pb n (wr n g o x) P c 1 [rb, mb] := by
  have hc0 := h.c0cell
  have hcc := h.c0
  have hn := h.nb
  have H := hid h
  obtain ⟨f, ha, hg⟩ := h.aw
  have HA := hid ha
  have HG := hid hg
  clear h ha hg
  by_cases hw : hasW n o = true
  · have hr := hid (show wr n g o x = upd g o.toNat x by unfold wr; rw [if_pos hw])
    have hd := of_decide_eq_true hw
    obtain ⟨o', rfl⟩ := Int.eq_ofNat_of_zero_le hd.1
    obtain ⟨-, hd1, hd2⟩ := hd
    clear hw
    go_enter Tryz.func103, Tryz.ntmps103
    go_wp2_with fail
    refine (set_ok w rb mb n o' f c x HA.out hn hcc (by omega) hx0 hx1 (by omega) (by omega)).mono ?_
    rintro e w1 ⟨rfl, hA1, hK1⟩
    have HA1 := hid hA1
    have HK1 := hid hK1
    clear hA1 hK1 hc0
    go_wp2
    refine bodyPost_end (results_none rfl _ _ _) rfl ?_
    refine ⟨rfl, c + 1, by omega, by omega, H.out.turn HK1.out ⟨_, HA1.out, ?_⟩ (by omega), HK1.out⟩
    rw [hr.out]
    exact upd_words HG.out (by omega)
  · have hw' : hasW n o = false := by simpa using hw
    have hr := hid (show wr n g o x = g by unfold wr; rw [hw']; rfl)
    clear hw
    have HW := hid hw'
    clear hw'
    go_enter Tryz.func103, Tryz.ntmps103
    go_wp2_with fail
    refine (set_no w rb mb n f c o x HA.out hn h4 HW.out).mono ?_
    rintro e w1 ⟨rfl, hK1⟩
    have HK1 := hid hK1
    clear hK1 hc0
    go_wp2
    refine bodyPost_end (results_none rfl _ _ _) rfl ?_
    rw [hr.out]
    exact ⟨rfl, c, by omega, by omega, H.out.same HK1.out, HK1.out.nil⟩
end Go.Proofs.YtgefmnnkpffpcaaGreatDoor

/- Bits of numbers: no Go is walked here. -/
namespace Go.Proofs.YtgefmnnkpffpcaaGreatDoor
open Go.RowKit

theorem ofInt64 (x : Nat) (h : x < 18446744073709551616) : (BitVec.ofInt 64 (x : Int)).toNat = x := by
  rw [BitVec.toNat_ofInt]; omega
theorem wrap64_small (x : Nat) (h : x < 9223372036854775808) : IntKind.i64.wrap (x : Int) = x := IntWalk.i64_in _ ⟨by omega, by omega⟩
theorem i64_or (a b : Nat) (ha : a < 4611686018427387904) (hb : b < 4611686018427387904) : bits .or .i64 (a : Int) (b : Int) = ((a ||| b : Nat) : Int) := by
  show IntKind.i64.wrap ((BitVec.ofInt 64 (a : Int) ||| BitVec.ofInt 64 (b : Int)).toNat : Int) = _
  rw [BitVec.toNat_or, ofInt64 a (by omega), ofInt64 b (by omega)]
  exact wrap64_small _ (Nat.lt_trans (Nat.or_lt_two_pow (n := 62) ha hb) (by decide))
theorem i64_and (a b : Nat) (ha : a < 4611686018427387904) (hb : b < 4611686018427387904) : bits .and .i64 (a : Int) (b : Int) = ((a &&& b : Nat) : Int) := by
  show IntKind.i64.wrap ((BitVec.ofInt 64 (a : Int) &&& BitVec.ofInt 64 (b : Int)).toNat : Int) = _
  rw [BitVec.toNat_and, ofInt64 a (by omega), ofInt64 b (by omega)]
  exact wrap64_small _ (Nat.lt_of_le_of_lt Nat.and_le_left (by omega))
theorem i64_andNot (a b : Nat) (ha : a < 4611686018427387904) (hb : b < 4611686018427387904) : bits .andNot .i64 (a : Int) (b : Int) = ((a &&& (18446744073709551615 - b) : Nat) : Int) := by
  show IntKind.i64.wrap ((BitVec.ofInt 64 (a : Int) &&& ~~~BitVec.ofInt 64 (b : Int)).toNat : Int) = _
  rw [BitVec.toNat_and, BitVec.toNat_not, ofInt64 a (by omega), ofInt64 b (by omega)]
  exact wrap64_small _ (Nat.lt_of_le_of_lt Nat.and_le_left (by omega))

theorem not_testBit (b i : Nat) (hb : b < 18446744073709551616) : (18446744073709551615 - b).testBit i = (decide (i < 64) && !b.testBit i) := by
  have := Nat.testBit_two_pow_sub_succ (x := b) (n := 64) hb i
  rwa [show 2 ^ 64 - (b + 1) = 18446744073709551615 - b by omega] at this
theorem small_testBit {a i : Nat} (ha : a < 18446744073709551616) (h : 64 ≤ i) : a.testBit i = false :=
  Nat.testBit_lt_two_pow (Nat.lt_of_lt_of_le (show a < 2 ^ 64 from ha) (Nat.pow_le_pow_right (by decide) h))
theorem andNot_bit (a b i : Nat) (ha : a < 18446744073709551616) (hb : b < 18446744073709551616) : (a &&& (18446744073709551615 - b)).testBit i = (a.testBit i && !b.testBit i) := by
  rw [Nat.testBit_and, not_testBit b i hb]
  by_cases h : i < 64
  · simp [h]
  · simp [small_testBit ha (show 64 ≤ i by omega)]

/-- Rounding down to a multiple of a power of two. -/
theorem andNot_mask (a k : Nat) (ha : a < 18446744073709551616) (hk : k < 64) : a &&& (18446744073709551615 - (2 ^ k - 1)) = a / 2 ^ k * 2 ^ k := by
  have h2 : 2 ^ k < 2 ^ 64 := Nat.pow_lt_pow_right (by decide) hk
  rw [show (2 : Nat) ^ 64 = 18446744073709551616 from rfl] at h2
  apply Nat.eq_of_testBit_eq
  intro i
  rw [andNot_bit _ _ _ ha (by omega), Nat.testBit_two_pow_sub_one, Nat.testBit_mul_two_pow]
  by_cases h : i < k
  · have : ¬ k ≤ i := by omega
    simp [h, this]
  · have h' : k ≤ i := by omega
    simp only [h, decide_false, Bool.not_false, Bool.and_true, h', decide_true, Bool.true_and]
    rw [Nat.testBit_div_two_pow, show i - k + k = i by omega]

/-- A number's lowest bit. -/
theorem low_and (k m : Nat) (h : 2 ^ k * (2 * m + 1) < 4294967296) : (2 ^ k * (2 * m + 1)) &&& (4294967296 - 2 ^ k * (2 * m + 1)) = 2 ^ k := by
  have hp : 0 < 2 ^ k := Nat.two_pow_pos k
  have hpos : 0 < 2 ^ k * (2 * m + 1) := Nat.mul_pos hp (by omega)
  apply Nat.eq_of_testBit_eq
  intro i
  have e := Nat.testBit_two_pow_sub_succ (x := 2 ^ k * (2 * m + 1) - 1) (n := 32) (by omega) i
  rw [show 2 ^ 32 - (2 ^ k * (2 * m + 1) - 1 + 1) = 4294967296 - 2 ^ k * (2 * m + 1) by omega] at e
  rw [Nat.testBit_and, e, Nat.testBit_two_pow]
  have e1 : 2 ^ k * (2 * m + 1) - 1 = 2 ^ k * (2 * m) + (2 ^ k - 1) := by rw [Nat.mul_add]; omega
  have b1 : (2 ^ k * (2 * m + 1)).testBit i = (decide (k ≤ i) && (2 * m + 1).testBit (i - k)) := by rw [Nat.mul_comm, Nat.testBit_mul_two_pow]
  have b2 : (2 ^ k * (2 * m) + (2 ^ k - 1)).testBit i = if i < k then (2 ^ k - 1).testBit i else (2 * m).testBit (i - k) := Nat.testBit_two_pow_mul_add _ (by omega) _
  rw [e1, b1, b2]
  by_cases h1 : i < k
  · have : ¬ k ≤ i := by omega
    have : ¬ k = i := by omega
    simp [*]
  · have hki : k ≤ i := by omega
    by_cases h2 : k = i
    · subst h2
      have h32 : k < 32 := by
        have : 2 ^ k < 2 ^ 32 := Nat.lt_of_le_of_lt (Nat.le_mul_of_pos_right (2 ^ k) (by omega)) h
        exact (Nat.pow_lt_pow_iff_right (by decide)).1 this
      simp [h32]
    · obtain ⟨j, hj⟩ : ∃ j, i - k = j + 1 := ⟨i - k - 1, by omega⟩
      simp [h1, h2, hj, Nat.testBit_succ, show (2 * m + 1) / 2 = m by omega]
      intro _ hm _
      exact hm

theorem odd_part : ∀ (x : Nat), x ≠ 0 → ∃ k m, x = 2 ^ k * (2 * m + 1) := by
  intro x
  induction x using Nat.strongRecOn with
  | ind x ih =>
    intro h
    by_cases h2 : x % 2 = 1
    · exact ⟨0, x / 2, by omega⟩
    · obtain ⟨k, m, e⟩ := ih (x / 2) (by omega) (by omega)
      refine ⟨k + 1, m, ?_⟩
      rw [Nat.pow_succ, Nat.mul_comm (2 ^ k) 2, Nat.mul_assoc, ← e]; omega

theorem aux_zero (f : Nat) : Lib.bitLenAux f 0 = 0 := by cases f <;> simp [Lib.bitLenAux]
theorem aux_lg : ∀ (f x : Nat), x ≠ 0 → x < 2 ^ f → Lib.bitLenAux f x = Nat.log2 x + 1
  | 0, x, h0, h => by simp at h; omega
  | f + 1, x, h0, h => by
    rw [Lib.bitLenAux, if_neg h0, Nat.log2_def]
    by_cases h2 : 2 ≤ x
    · rw [if_pos h2, aux_lg f (x / 2) (by omega) (by rw [Nat.pow_succ] at h; omega)]; omega
    · rw [if_neg h2, show x / 2 = 0 by omega, aux_zero]
theorem lg_eq (x : Nat) (h0 : x ≠ 0) (h : x < 18446744073709551616) : Lib.bitLen x = Nat.log2 x + 1 := aux_lg 64 x h0 h
end Go.Proofs.YtgefmnnkpffpcaaGreatDoor

/- The shelf laid at this program: bits.Len, slices.Sort, slices.Sorted, maps.Keys. -/
namespace Go.Proofs
open Go.Shelf
def Tryz.lays125_ren : Go.Shelf.Ren := ⟨fun | 125 => 122 | 128 => 126 | 129 => 127 | n => n, fun | 46 => 121 | 3 => 3 | 51 => 33 | 53 => 126 | 4 => 4 | 5 => 5 | 9 => 9 | n => n, fun | n => n⟩
theorem Tryz.lays125 : Go.Proofs.Lays.n125 Tryz.prog Tryz.lays125_ren := {
  mixed := by kernel_rfl
  f125 := Tryz.func122.trans (congrArg some (by kernel_rfl))
  f128 := Tryz.func126.trans (congrArg some (by kernel_rfl))
  f129 := Tryz.func127.trans (congrArg some (by kernel_rfl))
  t3 := Tryz.underlying3
  a3 := Tryz.isAgg3
  z3 := Tryz.sizeOf3
  v3 := Tryz.zeroValue3
  t4 := Tryz.underlying4
  a4 := Tryz.isAgg4
  z4 := Tryz.sizeOf4
  v4 := Tryz.zeroValue4
  t5 := Tryz.underlying5
  a5 := Tryz.isAgg5
  z5 := Tryz.sizeOf5
  v5 := Tryz.zeroValue5
  t9 := Tryz.underlying9
  a9 := Tryz.isAgg9
  z9 := Tryz.sizeOf9
  v9 := Tryz.zeroValue9
  t46 := Tryz.underlying121
  a46 := Tryz.isAgg121
  z46 := Tryz.sizeOf121
  v46 := Tryz.zeroValue121
  t51 := Tryz.underlying33
  a51 := Tryz.isAgg33
  z51 := Tryz.sizeOf33
  v51 := Tryz.zeroValue33
  t53 := Tryz.underlying126
  a53 := Tryz.isAgg126
  z53 := Tryz.sizeOf126
  v53 := Tryz.zeroValue126 }
theorem Tryz.bits_Len (x : Int) (w : World) (h0 : 0 ≤ x) (h1 : x ≤ 18446744073709551615) :
    Calls Tryz.prog 122 #[.int .u64 x] w fun e w' => e = .returned (.int .i64 (Lib.bitLen x.toNat)) ∧ w' = w := Any.bits_Len Tryz.lays125 x w h0 h1
def Tryz.laysSort_ren : Go.Shelf.Ren := ⟨fun | 5 => 124 | 8 => 122 | 7 => 129 | 19 => 126 | 20 => 127 | 10 => 130 | 11 => 131 | 12 => 132 | 13 => 133 | 14 => 134 | 15 => 135 | 16 => 136 | 17 => 137 | 18 => 138 | 30 => 139 | 31 => 140 | 32 => 141 | 33 => 142 | 34 => 143 | 35 => 144 | 40 => 145 | n => n, fun | 23 => 29 | 25 => 3 | 3 => 3 | 32 => 121 | 22 => 29 | 0 => 0 | 44 => 33 | 46 => 126 | 4 => 4 | 36 => 131 | 35 => 130 | 41 => 100 | 5 => 5 | 9 => 9 | 53 => 136 | 57 => 140 | 63 => 142 | 64 => 72 | n => n, fun | n => n⟩
theorem Tryz.laysSort : Go.Proofs.SlLaysM.n5 Tryz.prog Tryz.laysSort_ren := {
  mixed := by kernel_rfl
  f5 := ⟨Tryz.f124.name, by decide, Tryz.func124.trans (congrArg some (by kernel_rfl))⟩
  f7 := ⟨Tryz.f129.name, by decide, Tryz.func129.trans (congrArg some (by kernel_rfl))⟩
  f8 := Tryz.func122.trans (congrArg some (by kernel_rfl))
  f10 := ⟨Tryz.f130.name, by decide, Tryz.func130.trans (congrArg some (by kernel_rfl))⟩
  f11 := ⟨Tryz.f131.name, by decide, Tryz.func131.trans (congrArg some (by kernel_rfl))⟩
  f12 := ⟨Tryz.f132.name, by decide, Tryz.func132.trans (congrArg some (by kernel_rfl))⟩
  f13 := ⟨Tryz.f133.name, by decide, Tryz.func133.trans (congrArg some (by kernel_rfl))⟩
  f14 := ⟨Tryz.f134.name, by decide, Tryz.func134.trans (congrArg some (by kernel_rfl))⟩
  f15 := ⟨Tryz.f135.name, by decide, Tryz.func135.trans (congrArg some (by kernel_rfl))⟩
  f16 := ⟨Tryz.f136.name, by decide, Tryz.func136.trans (congrArg some (by kernel_rfl))⟩
  f17 := ⟨Tryz.f137.name, by decide, Tryz.func137.trans (congrArg some (by kernel_rfl))⟩
  f18 := ⟨Tryz.f138.name, by decide, Tryz.func138.trans (congrArg some (by kernel_rfl))⟩
  f19 := Tryz.func126.trans (congrArg some (by kernel_rfl))
  f20 := Tryz.func127.trans (congrArg some (by kernel_rfl))
  f30 := ⟨Tryz.f139.name, by decide, Tryz.func139.trans (congrArg some (by kernel_rfl))⟩
  f31 := Tryz.func140.trans (congrArg some (by kernel_rfl))
  f32 := Tryz.func141.trans (congrArg some (by kernel_rfl))
  f33 := ⟨Tryz.f142.name, by decide, Tryz.func142.trans (congrArg some (by kernel_rfl))⟩
  f34 := ⟨Tryz.f143.name, by decide, Tryz.func143.trans (congrArg some (by kernel_rfl))⟩
  f35 := ⟨Tryz.f144.name, by decide, Tryz.func144.trans (congrArg some (by kernel_rfl))⟩
  f40 := ⟨Tryz.f145.name, by decide, Tryz.func145.trans (congrArg some (by kernel_rfl))⟩
  t0 := Tryz.underlying0
  a0 := Tryz.isAgg0
  z0 := Tryz.sizeOf0
  v0 := Tryz.zeroValue0
  t3 := Tryz.underlying3
  a3 := Tryz.isAgg3
  z3 := Tryz.sizeOf3
  v3 := Tryz.zeroValue3
  t4 := Tryz.underlying4
  a4 := Tryz.isAgg4
  z4 := Tryz.sizeOf4
  v4 := Tryz.zeroValue4
  t5 := Tryz.underlying5
  a5 := Tryz.isAgg5
  z5 := Tryz.sizeOf5
  v5 := Tryz.zeroValue5
  t9 := Tryz.underlying9
  a9 := Tryz.isAgg9
  z9 := Tryz.sizeOf9
  v9 := Tryz.zeroValue9
  t22 := Tryz.underlying29
  a22 := Tryz.isAgg29
  z22 := Tryz.sizeOf29
  v22 := Tryz.zeroValue29
  t23 := Tryz.underlying29
  a23 := Tryz.isAgg29
  z23 := Tryz.sizeOf29
  v23 := Tryz.zeroValue29
  t25 := Tryz.underlying3
  a25 := Tryz.isAgg3
  z25 := Tryz.sizeOf3
  v25 := Tryz.zeroValue3
  t32 := Tryz.underlying121
  a32 := Tryz.isAgg121
  z32 := Tryz.sizeOf121
  v32 := Tryz.zeroValue121
  t35 := Tryz.underlying130
  a35 := Tryz.isAgg130
  z35 := Tryz.sizeOf130
  v35 := Tryz.zeroValue130
  t36 := Tryz.underlying131
  a36 := Tryz.isAgg131
  z36 := Tryz.sizeOf131
  v36 := Tryz.zeroValue131
  t41 := Tryz.underlying100
  a41 := Tryz.isAgg100
  z41 := Tryz.sizeOf100
  v41 := Tryz.zeroValue100
  t44 := Tryz.underlying33
  a44 := Tryz.isAgg33
  z44 := Tryz.sizeOf33
  v44 := Tryz.zeroValue33
  t46 := Tryz.underlying126
  a46 := Tryz.isAgg126
  z46 := Tryz.sizeOf126
  v46 := Tryz.zeroValue126
  t53 := Tryz.underlying136
  a53 := Tryz.isAgg136
  z53 := Tryz.sizeOf136
  v53 := Tryz.zeroValue136
  t57 := Tryz.underlying140
  a57 := Tryz.isAgg140
  z57 := Tryz.sizeOf140
  v57 := Tryz.zeroValue140
  t63 := Tryz.underlying142
  a63 := Tryz.isAgg142
  z63 := Tryz.sizeOf142
  v63 := Tryz.zeroValue142
  t64 := Tryz.underlying72
  a64 := Tryz.isAgg72
  z64 := Tryz.sizeOf72
  v64 := Tryz.zeroValue72 }
def Tryz.laysKeys_ren : Go.Shelf.Ren := ⟨fun | 7 => 118 | 10 => 125 | n => n, fun | 23 => 65 | 26 => 3 | 3 => 3 | 28 => 118 | 0 => 0 | 27 => 117 | 33 => 36 | 4 => 4 | n => n, fun | n => n⟩
theorem Tryz.laysKeys : Go.Proofs.SlLaysZI.n7 Tryz.prog Tryz.laysKeys_ren := {
  mixed := by kernel_rfl
  f7 := ⟨Tryz.f118.name, by decide, Tryz.func118.trans (congrArg some (by kernel_rfl))⟩
  f10 := ⟨Tryz.f125.name, by decide, Tryz.func125.trans (congrArg some (by kernel_rfl))⟩
  t0 := Tryz.underlying0
  a0 := Tryz.isAgg0
  z0 := Tryz.sizeOf0
  v0 := Tryz.zeroValue0
  t4 := Tryz.underlying4
  a4 := Tryz.isAgg4
  z4 := Tryz.sizeOf4
  v4 := Tryz.zeroValue4
  t23 := Tryz.underlying65
  a23 := Tryz.isAgg65
  z23 := Tryz.sizeOf65
  v23 := Tryz.zeroValue65
  t26 := Tryz.underlying3
  a26 := Tryz.isAgg3
  z26 := Tryz.sizeOf3
  v26 := Tryz.zeroValue3
  t27 := Tryz.underlying117
  a27 := Tryz.isAgg117
  z27 := Tryz.sizeOf117
  v27 := Tryz.zeroValue117
  t28 := Tryz.underlying118
  a28 := Tryz.isAgg118
  z28 := Tryz.sizeOf118
  v28 := Tryz.zeroValue118
  t33 := Tryz.underlying36
  a33 := Tryz.isAgg36
  z33 := Tryz.sizeOf36
  v33 := Tryz.zeroValue36 }
def Tryz.laysSorted_ren : Go.Shelf.Ren := ⟨fun | 6 => 117 | 8 => 123 | 9 => 124 | 11 => 128 | 13 => 122 | 12 => 129 | 23 => 126 | 24 => 127 | 14 => 130 | 15 => 131 | 16 => 132 | 17 => 133 | 18 => 134 | 19 => 135 | 20 => 136 | 21 => 137 | 22 => 138 | 25 => 139 | 26 => 140 | 27 => 141 | 28 => 142 | 29 => 143 | 30 => 144 | 31 => 145 | n => n, fun | 26 => 3 | 28 => 118 | 24 => 29 | 0 => 0 | 3 => 3 | 37 => 121 | 48 => 33 | 50 => 126 | 4 => 4 | 40 => 131 | 39 => 130 | 45 => 100 | 5 => 5 | 9 => 9 | 51 => 136 | 55 => 140 | 57 => 142 | 58 => 72 | 33 => 36 | n => n, fun | n => n⟩
theorem Tryz.laysSorted : Go.Proofs.SlLaysZI.n6 Tryz.prog Tryz.laysSorted_ren := {
  mixed := by kernel_rfl
  f6 := ⟨Tryz.f117.name, by decide, Tryz.func117.trans (congrArg some (by kernel_rfl))⟩
  f8 := ⟨Tryz.f123.name, by decide, Tryz.func123.trans (congrArg some (by kernel_rfl))⟩
  f11 := ⟨Tryz.f128.name, by decide, Tryz.func128.trans (congrArg some (by kernel_rfl))⟩
  t0 := Tryz.underlying0
  a0 := Tryz.isAgg0
  z0 := Tryz.sizeOf0
  v0 := Tryz.zeroValue0
  t24 := Tryz.underlying29
  a24 := Tryz.isAgg29
  z24 := Tryz.sizeOf29
  v24 := Tryz.zeroValue29
  t26 := Tryz.underlying3
  a26 := Tryz.isAgg3
  z26 := Tryz.sizeOf3
  v26 := Tryz.zeroValue3
  t28 := Tryz.underlying118
  a28 := Tryz.isAgg118
  z28 := Tryz.sizeOf118
  v28 := Tryz.zeroValue118
  i26 := by kernel_rfl }
end Go.Proofs
