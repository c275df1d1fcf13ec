/- Check's answer at known's last state; TlsfNil. -/
import Derived.Test.YtgefmnnkpffpcaaGreatDoorHroundJ
import Derived.Test.YtgefmnnkpffpcaaGreatDoorHnil
namespace Go.Proofs.YtgefmnnkpffpcaaGreatDoor
open Go.RowKit Go.Maps Go.Shelf

theorem ahead_of {q : Bk → Prop} {n : Nat} {g : Mem} (BL : List (Bq q)) (h : ∀ k (hk : k < BL.length), rd n g (BL[k].1.1 + 4) = lastAt (valq (BL.take k))) :
    ∀ pre x, pre ++ [x] <+: BL → rd n g (x.1.1 + 4) = lastAt (valq pre) := by
  rintro pre x ⟨r, rfl⟩
  have := h pre.length (by simp)
  simpa using this

theorem q9 : ∀ b ∈ [((112, 32, false) : Bk), (144, 24, false), (168, 64, false), (232, 24, true)], (0 ≤ b.1 ∧ b.1 ≤ 1000000 ∧ 0 ≤ b.2.1 ∧ b.2.1 ≤ 1000000) ∧ qB 256 (sw ks9) b := by
  unfold qB
  decide +kernel
def kb9 : List (Bq (qB 256 (sw ks9))) := [⟨(112, 32, false), q9 _ (by simp)⟩, ⟨(144, 24, false), q9 _ (by simp)⟩, ⟨(168, 64, false), q9 _ (by simp)⟩, ⟨(232, 24, true), q9 _ (by simp)⟩]
theorem ok9 : Okp 256 [(120, 32), (152, 24), (176, 64)] := by unfold Okp; decide
theorem ah9 : ∀ k (hk : k < kb9.length), rd 256 (sw ks9) (kb9[k].1.1 + 4) = lastAt (valq (kb9.take k)) := by
  intro k hk
  have hk4 : k < 4 := hk
  match k, hk4 with
  | 0, _ => exact (by decide +kernel : rd 256 (sw ks9) ((kb9[0]'(by decide)).1.1 + 4) = lastAt (valq (kb9.take 0)))
  | 1, _ => exact (by decide +kernel : rd 256 (sw ks9) ((kb9[1]'(by decide)).1.1 + 4) = lastAt (valq (kb9.take 1)))
  | 2, _ => exact (by decide +kernel : rd 256 (sw ks9) ((kb9[2]'(by decide)).1.1 + 4) = lastAt (valq (kb9.take 2)))
  | 3, _ => exact (by decide +kernel : rd 256 (sw ks9) ((kb9[3]'(by decide)).1.1 + 4) = lastAt (valq (kb9.take 3)))
theorem chk9 (W : World) (hb rb mb pb : Nat) (c : Int) (h : Hp W hb rb mb pb 256 (sw ks9) c [(120, 32), (152, 24), (176, 64)]) (hc : c < 1000000) :
    Calls Tryz.prog 31 #[.pointer (some ⟨hb, 0, none⟩)] W fun e w' => e = .returned (.bool true) ∧ Went W w' hb rb mb pb 256 (sw ks9) [(120, 32), (152, 24), (176, 64)] c 600000 [rb] :=
  check_ok W hb rb mb pb 256 10 2 (sw ks9) c _ kb9 (by rw [kn10b]; rfl) h ok9 (by decide) (by decide) (by omega) (ahead_of kb9 ah9) (by decide) kn10c (by decide +kernel) (by decide +kernel) (by decide +kernel) (by decide +kernel)
theorem nil_ok (w : World) (ht : Tb w) : Calls Tryz.prog 6 #[] w fun e w' => e = .returned (.bool true) ∧ Kp w w' [] := nil_if chk9 w ht
end Go.Proofs.YtgefmnnkpffpcaaGreatDoor
