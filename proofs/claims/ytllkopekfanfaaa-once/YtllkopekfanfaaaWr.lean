/- The waiting list, by the blocks that it writes; and one that is not there. -/
import Derived.Test.YtllkopekfanfaaaRlistJ
import Derived.Test.YtllkopekfanfaaaLi
import Derived.Test.YtllkopekfanfaaaCopy
namespace Go.Proofs.Ytllkopekfanfaaa
open Go.RowKit Go.Shelf Go.Lib Go.Sort Go.Maps
attribute [local go_sem] Oper.semAt_some

theorem fst_eq (L Z : List Dl) (h : ordK L 31 = Z) (t : Int) (b : Bool) (ht : (Z.headD (0, 0)).1 = t) (hb : (!Z.isEmpty) = b) : fstT L = t ∧ fstB L = b := by
  unfold fstT fstB
  rw [ordL_eq, h]
  exact ⟨ht, hb⟩
theorem take_eq (L Z R : List Dl) (h : ordK L 31 = Z) (t : Int) (ht : (Z.headD (0, 0)).1 = t) (hb : (!Z.isEmpty) = true) (hr : delP L t = R) : fstT L = t ∧ fstB L = true ∧ takeL L = R := by
  obtain ⟨h1, h2⟩ := fst_eq L Z h t true ht hb
  refine ⟨h1, h2, ?_⟩
  unfold takeL
  rw [h1, h2, if_pos rfl, hr]
theorem keys_eq (L : List Dl) (l : List Int) (h : (ordK L 31).map (·.1) = l) : (ordL L).map (·.1) = l := by rw [ordL_eq]; exact h
theorem turn_rows {W : World} {wb pb : Nat} {V V' : Value} (h2 : ∀ g, V'.ownBlock = some g → V.ownBlock = some g ∨ W.heap.size ≤ g) {k : Nat} (hk : k ∈ rows wb pb V') : k ∈ rows wb pb V ∨ W.heap.size ≤ k := by
  simp only [rows, List.mem_cons, Option.mem_toList] at hk ⊢
  rcases hk with e | e | e
  · exact .inl (.inl e)
  · exact .inl (.inr (.inl e))
  · exact (h2 k e).imp (fun q => .inr (.inr q)) id
/-- A list, by the blocks that it writes. -/
def Wr (w : World) (wb : Nat) (R : List Nat) (L : List Dl) : Prop := ∃ pb V, R = rows wb pb V ∧ Wt w wb pb V L
/-- Blocks behind a call: those that were, or new ones. -/
def Nw (w : World) (R R' : List Nat) : Prop := ∀ k ∈ R', k ∈ R ∨ w.heap.size ≤ k
theorem Nw.refl (w : World) (R : List Nat) : Nw w R R := fun _ h => .inl h
theorem Nw.trans {w w1 : World} {R R1 R2 : List Nat} (h : Nw w R R1) (h' : Nw w1 R1 R2) (hs : w.heap.size ≤ w1.heap.size) : Nw w R R2 := fun k hk => by
  rcases h' k hk with q | q
  · exact h k q
  · exact .inr (by omega)
variable {w w' : World} {wb rb : Nat} {R : List Nat} {L : List Dl}
theorem Wr.ok (h : Wr w wb R L) : okL L := by
  obtain ⟨pb, V, -, h⟩ := h
  exact h.ok
theorem Wr.vw (h : Wr w wb R L) : Vw w (some ⟨wb, 0, none⟩) L := by
  obtain ⟨pb, V, -, h⟩ := h
  exact h.vw
theorem Wr.lt (h : Wr w wb R L) : ∀ k ∈ R, k < w.heap.size := by
  obtain ⟨pb, V, rfl, h⟩ := h
  exact fun k hk => h.rowslt hk
theorem Wr.kind (h : Wr w wb R L) : ∀ k ∈ R, ∀ c, w.heap[k]? ≠ some (.cells c 69 (0, 0)) ∧ w.heap[k]? ≠ some (.cells c 103 (0, 0)) := by
  obtain ⟨pb, V, rfl, h⟩ := h
  intro k hk c
  obtain ⟨P, hP, -⟩ := h.mp
  obtain ⟨es, cl, hp⟩ := hP.obj
  simp only [rows, List.mem_cons, Option.mem_toList] at hk
  rcases hk with rfl | rfl | hk
  · rw [h.hh]; simp
  · rw [hp]; simp
  · obtain ⟨cur, hc⟩ := h.own hk
    rw [hc]; simp
theorem Wr.keep (h : Wr w wb R L) {rs : List Nat} (hk : Kp w w' rs) (hr : ∀ k ∈ R, k ∉ rs) : Wr w' wb R L := by
  obtain ⟨pb, V, rfl, h⟩ := h
  exact ⟨pb, V, rfl, h.keep hk hr⟩
theorem Wr.same (h : Wr w wb R L) (hk : Kp w w' []) : Wr w' wb R L := h.keep hk (by simp)
theorem Wr.notRef (h : Wr w wb R L) {M : List Dl} (hr : Rf w rb M) : ∀ k ∈ R, k ∉ [rb] := by
  intro k hk hm
  simp at hm
  subst hm
  obtain ⟨v, hb, -⟩ := hr
  exact (h.kind k hk _).1 hb
theorem wr_of_turn {pb : Nat} {V : Value} {L' : List Dl} (h : Turn w w' wb pb V L') : ∃ R', Wr w' wb R' L' ∧ Nw w (rows wb pb V) R' ∧ Kp w w' (rows wb pb V) := by
  obtain ⟨V', h1, h2, h3⟩ := h
  exact ⟨_, ⟨pb, V', rfl, h1⟩, fun k hk => turn_rows h2 hk, h3⟩
theorem Wr.put (h : Wr w wb R L) (t p : Int) : Calls Try.prog 48 #[.pointer (some ⟨wb, 0, none⟩), .int .i64 t, .int .i64 p] w fun e w' => e = .returned (.int .i64 (putE L t p)) ∧ ∃ R', Wr w' wb R' (putL L t p) ∧ Nw w R R' ∧ Kp w w' R := by
  obtain ⟨pb, V, rfl, h⟩ := h
  refine (put_any w wb pb V L t p h).mono ?_
  rintro e w' ⟨rfl, hT⟩
  exact ⟨rfl, wr_of_turn hT⟩
theorem Wr.chg (h : Wr w wb R L) (t p : Int) : Calls Try.prog 54 #[.pointer (some ⟨wb, 0, none⟩), .int .i64 t, .int .i64 p] w fun e w' => e = .returned (.int .i64 (chgE L t p)) ∧ ∃ R', Wr w' wb R' (chgL L t p) ∧ Nw w R R' ∧ Kp w w' R := by
  obtain ⟨pb, V, rfl, h⟩ := h
  refine (change_any w wb pb V L t p h).mono ?_
  rintro e w' ⟨rfl, hT⟩
  exact ⟨rfl, wr_of_turn hT⟩
theorem Wr.lv (h : Wr w wb R L) (t : Int) : Calls Try.prog 53 #[.pointer (some ⟨wb, 0, none⟩), .int .i64 t] w fun e w' => e = .returned (.int .i64 (lvE L t)) ∧ ∃ R', Wr w' wb R' (lvL L t) ∧ Nw w R R' ∧ Kp w w' R := by
  obtain ⟨pb, V, rfl, h⟩ := h
  refine (leave_any w wb pb V L t h).mono ?_
  rintro e w' ⟨rfl, hT⟩
  exact ⟨rfl, wr_of_turn hT⟩
theorem Wr.take (h : Wr w wb R L) : Calls Try.prog 47 #[.pointer (some ⟨wb, 0, none⟩)] w fun e w' => e = .returned (.tuple #[.int .i64 (fstT L), .bool (fstB L)]) ∧ ∃ R', Wr w' wb R' (takeL L) ∧ Nw w R R' ∧ Kp w w' R := by
  obtain ⟨pb, V, rfl, h⟩ := h
  refine (take_any w wb pb V L h).mono ?_
  rintro e w' ⟨rfl, hT⟩
  exact ⟨rfl, wr_of_turn hT⟩
theorem Wr.copy (h : Wr w wb R L) : Calls Try.prog 58 #[.pointer (some ⟨wb, 0, none⟩)] w fun e w' => ∃ wb' R', e = .returned (.pointer (some ⟨wb', 0, none⟩)) ∧ Wr w' wb' R' L ∧ (∀ k ∈ R', w.heap.size ≤ k) ∧ Kp w w' [] := by
  obtain ⟨pb, V, rfl, h⟩ := h
  refine (copy_any w wb pb V L h).mono ?_
  rintro e w' ⟨wb', pb', V', rfl, h1, h2, h3⟩
  exact ⟨wb', _, rfl, ⟨pb', V', rfl, h1⟩, h2, h3⟩
theorem Wr.eq (h : Wr w wb R L) {wb2 : Nat} {R2 : List Nat} {M : List Dl} (h2 : Wr w wb2 R2 M) : Calls Try.prog 42 #[.pointer (some ⟨wb, 0, none⟩), .pointer (some ⟨wb2, 0, none⟩)] w fun e w' => e = .returned (.bool (decide (L = M))) ∧ Kp w w' [] := by
  obtain ⟨pb, V, rfl, h⟩ := h
  obtain ⟨pb2, V2, rfl, h2⟩ := h2
  exact same_any w wb pb wb2 pb2 V V2 L M h h2
set_option maxRecDepth 100000 in
theorem num_any (w : World) (x : Int) : Calls Try.prog 9 #[.int .i64 x] w fun e w' => e = .returned (.int .i64 x) ∧ w' = w := by
  go_enter Try.func9, Try.ntmps9
  go_wp2
  go_ret
  exact ⟨rfl, rfl⟩
theorem num_kp (w : World) (x : Int) : Calls Try.prog 9 #[.int .i64 x] w fun e w' => e = .returned (.int .i64 x) ∧ Kp w w' [] := (num_any w x).mono fun _ _ ⟨a, b⟩ => ⟨a, by rw [b]; exact Kp.refl _ _⟩
theorem Zw.vw {w : World} {p : Option Addr} (h : Zw w p) : Vw w p [] := .inr ⟨h, rfl⟩
theorem ord_nil : ordL [] = [] := by rw [ordL_eq]; rfl
theorem fst_nil : fstT [] = 0 ∧ fstB [] = false := fst_eq [] [] rfl 0 false rfl rfl
set_option maxRecDepth 100000 in
theorem zput (w : World) (p : Option Addr) (t q : Int) (h : Zw w p) : Calls Try.prog 48 #[.pointer p, .int .i64 t, .int .i64 q] w fun e w' => e = .returned (.int .i64 1) ∧ w' = w := by
  have H := hid h
  clear h
  go_enter Try.func48, Try.ntmps48
  go_wp2_with (go_at_call 68; refine (zero_yes w p H.out).mono ?_; rintro e w1 ⟨rfl, rfl⟩)
  go_ret
  exact ⟨rfl, rfl⟩
set_option maxRecDepth 100000 in
theorem zchg (w : World) (p : Option Addr) (t q : Int) (h : Zw w p) : Calls Try.prog 54 #[.pointer p, .int .i64 t, .int .i64 q] w fun e w' => e = .returned (.int .i64 1) ∧ w' = w := by
  have H := hid h
  clear h
  go_enter Try.func54, Try.ntmps54
  go_wp2_with (go_at_call 68; refine (zero_yes w p H.out).mono ?_; rintro e w1 ⟨rfl, rfl⟩)
  go_ret
  exact ⟨rfl, rfl⟩
set_option maxRecDepth 100000 in
theorem zlv (w : World) (p : Option Addr) (t : Int) (h : Zw w p) : Calls Try.prog 53 #[.pointer p, .int .i64 t] w fun e w' => e = .returned (.int .i64 1) ∧ w' = w := by
  have H := hid h
  clear h
  go_enter Try.func53, Try.ntmps53
  go_wp2_with (go_at_call 68; refine (zero_yes w p H.out).mono ?_; rintro e w1 ⟨rfl, rfl⟩)
  go_ret
  exact ⟨rfl, rfl⟩
theorem zlist (w : World) (p : Option Addr) (h : Zw w p) : Calls Try.prog 55 #[.pointer p] w fun e w' => ∃ v, e = .returned v ∧ Ns w' w.heap.size v [] ∧ Kp w w' [] := by
  have := list_any w p [] h.vw
  rw [ord_nil] at this
  exact this
end Go.Proofs.Ytllkopekfanfaaa
