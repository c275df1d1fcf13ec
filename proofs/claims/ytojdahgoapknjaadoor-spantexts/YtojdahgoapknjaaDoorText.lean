/- Text; texts that Parse refuses at once. -/
import Derived.Test.YtojdahgoapknjaaDoorTicks
import Derived.Test.YtojdahgoapknjaaDoorShelf
import Derived.Lib.SmallJoins
namespace Go.Proofs.YtojdahgoapknjaaDoor
open Go.RowKit Go.Shelf
set_option linter.unusedVariables false

/-- What the walks ask of the package's variables. -/
structure Wd (w : World) : Prop where
  tab : Lib.TabIs Tryd.prog w "internal/strconv.uint64pow10" .u64 Lib.pow10Tab
  mx : ∃ m, w.cell? ⟨0, 0, none⟩ = some (.int .i64 m)
theorem gPow : Tryd.prog.globalNamed "internal/strconv.uint64pow10" = some 1 := by kernel_rfl
theorem Wd.keep {w w' : World} (h : Wd w) (k : Kp w w' []) : Wd w' :=
  ⟨Go.Joins.tab_stays gPow h.tab k.below (Nat.le_refl _), by obtain ⟨m, hm⟩ := h.mx; exact ⟨m, k.cell hm (by simp)⟩⟩
theorem Kp.drewN (w : World) (n : Nat) (rows : List Nat) : Kp w (w.drewN n) rows := ⟨rfl, rfl, rfl, Nat.le_refl _, fun _ _ _ => rfl⟩
theorem Kp.grow (w : World) (k : Nat) (os : Array Obj) : Kp w (Sort.grow (w.drewN k) os) [] :=
  ⟨rfl, rfl, rfl, by show w.heap.size ≤ (w.heap ++ os).size; simp, fun i hi _ => by show (w.heap ++ os)[i]? = w.heap[i]?; rw [Array.getElem?_append_left hi]⟩
theorem format_any (w : World) (n : Int) (hn : I64 n) (h : Wd w) : Calls Tryd.prog 36 #[.int .i64 n, .int .i64 10] w fun e w' => e = .returned (.string ⟨(Lib.itoa n).toArray⟩) ∧ Kp w w' [] :=
  (Tryd.formatInt n hn.1 hn.2 w h.tab).mono fun e w' ⟨he, k, os, hw⟩ => ⟨he, by rw [hw]; exact Kp.grow _ _ _⟩

/-- A span's text. -/
def txt (s n : Int) : List UInt8 := (Lib.itoa s ++ [46]) ++ (Lib.itoa (1000000000 + n)).drop 1
abbrev txE (s n : Int) : Value := .tuple #[.string ⟨(txt s n).toArray⟩, .int .i64 0]

set_option maxRecDepth 100000 in
theorem text_no (w : World) (a b : Int) (m1 : may a b = false) : Calls Tryd.prog 27 #[sp a b] w fun x w' => x = .returned (.tuple #[.string ⟨#[]⟩, .int .i64 2]) ∧ Kp w w' [] := by
  go_enter Tryd.func27, Tryd.ntmps27
  go_wp2_with fail
  refine (may_any _ a b).mono ?_
  rintro e w1 ⟨rfl, k1⟩
  rw [m1]
  have K1 := hid ((Kp.alloc w (ob a b) []).trans k1)
  clear k1
  go_wp2_with fail
  exact bodyPost_ret (v := .tuple #[.string ⟨#[]⟩, .int .i64 2]) (by simp [results, Tryd.results27, go_sem]) rfl ⟨rfl, K1.out⟩

theorem dec_length (n : Nat) : 1 ≤ (Lib.decDigits n).length := by
  rw [Lib.decDigits]
  split <;> simp
theorem itoa_length (n : Int) : 1 ≤ (Lib.itoa n).length := by
  unfold Lib.itoa
  split
  · simp
  · exact dec_length _
theorem dec_le (k : Nat) : ∀ n : Nat, n < 10 ^ (k + 1) → (Lib.decDigits n).length ≤ k + 1 := by
  induction k with
  | zero => intro n hn; rw [Lib.decDigits, dif_pos (by simpa using hn)]; simp
  | succ k ih =>
    intro n hn
    rw [Lib.decDigits]
    split
    · simp
    · have := ih (n / 10) (by rw [Nat.pow_succ] at hn; omega)
      simp; omega
theorem dec_short (n : Int) (h0 : 0 ≤ n) (h1 : n < 10000000000) : (Lib.itoa n).length ≤ 10 := by
  unfold Lib.itoa
  rw [if_neg (by omega)]
  exact dec_le 9 n.toNat (by omega)
theorem bytes_cut (l : List UInt8) : (⟨l.toArray⟩ : ByteArray).extract 1 l.length = ⟨(l.drop 1).toArray⟩ := by
  apply ByteArray.ext
  have : List.take (l.length - 1) l.tail = l.tail := List.take_of_length_le (by simp)
  simp [this]
theorem bytes_join (k l : List UInt8) : (⟨k.toArray⟩ : ByteArray) ++ ⟨l.toArray⟩ = ⟨(k ++ l).toArray⟩ := by
  apply ByteArray.ext
  simp

set_option maxRecDepth 100000 in
theorem text_ok (w : World) (a b : Int) (m1 : may a b = true) (h : Wd w) : Calls Tryd.prog 27 #[sp a b] w fun x w' => x = .returned (txE a b) ∧ Kp w w' [] := by
  obtain ⟨a1, a2, b1, b2⟩ := may_iff.1 m1
  have HW := hid h
  have cl := fun w h => format_any w (1000000000 + b) ⟨by omega, by omega⟩ h
  have ck := fun w h => format_any w a ⟨by omega, by omega⟩ h
  have l1 := itoa_length (1000000000 + b)
  have l3 := dec_short (1000000000 + b) (by omega) (by omega)
  have l4 := dec_short a (by omega) (by omega)
  rw [show txE a b = .tuple #[.string ⟨((Lib.itoa a ++ [46]) ++ (Lib.itoa (1000000000 + b)).drop 1).toArray⟩, .int .i64 0] from rfl]
  obtain ⟨l, hl⟩ : ∃ l, Lib.itoa (1000000000 + b) = l := ⟨_, rfl⟩
  obtain ⟨k, hk⟩ : ∃ k, Lib.itoa a = k := ⟨_, rfl⟩
  simp only [hl, hk] at cl ck l1 l3 l4 ⊢
  clear h hl hk
  have l2 : (1 : Int) ≤ l.length := by omega
  have bc := bytes_cut l
  have q1 : ¬ 9223372036854775807 < k.length + 1 := by omega
  have q2 : ¬ 9223372036854775807 < k.length + 1 + (l.length - 1) := by omega
  have HE := hid (show (⟨k.toArray⟩ : ByteArray) ++ ⟨#[46]⟩ ++ ⟨l.tail.toArray⟩ = ⟨((k ++ [46]) ++ l.drop 1).toArray⟩ by rw [show (⟨#[46]⟩ : ByteArray) = ⟨([46] : List UInt8).toArray⟩ from rfl, bytes_join, bytes_join, List.drop_one])
  go_enter Tryd.func27, Tryd.ntmps27
  go_wp2_with fail
  have p1 := bx_new w a b
  refine (may_any _ a b).mono ?_
  rintro e w1 ⟨rfl, k1⟩
  rw [m1]
  have K1 := hid ((Kp.alloc w (ob a b) []).trans k1)
  have P1 := hid (p1.keep k1)
  clear p1 k1
  have x0 := P1.out.c0
  have x1 := P1.out.c1
  go_wp2_with fail
  refine (cl _ (HW.out.keep K1.out)).mono ?_
  rintro e w2 ⟨rfl, k1⟩
  have K2 := hid (K1.out.trans k1)
  have P2 := hid (P1.out.keep k1)
  clear k1 x0 x1 K1 P1 cl
  have x0 := P2.out.c0
  have x1 := P2.out.c1
  go_wp2_with fail
  refine (ck _ (HW.out.keep K2.out)).mono ?_
  rintro e w3 ⟨rfl, k1⟩
  have K3 := hid (K2.out.trans k1)
  clear k1 x0 x1 K2 P2 ck
  go_wp2_with fail
  exact bodyPost_ret (v := .tuple #[.string (⟨k.toArray⟩ ++ ⟨#[46]⟩ ++ ⟨l.tail.toArray⟩), .int .i64 0]) (by simp [results, Tryd.results27, go_sem]) rfl ⟨by rw [HE.out], K3.out⟩
end Go.Proofs.YtojdahgoapknjaaDoor
