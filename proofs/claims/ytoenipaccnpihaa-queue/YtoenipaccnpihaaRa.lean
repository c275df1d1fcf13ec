/- The reference's All, Clear. -/
import Derived.Test.YtoenipaccnpihaaRv
import Derived.Test.YtoenipaccnpihaaGr
namespace Go.Proofs.Ytoenipaccnpihaa
open Go.RowKit Go.Shelf Go.Sort Go.Maps
open Go.Lib hiding intOf
attribute [local go_sem] Oper.semAt_some

/-- All signals. -/
abbrev W32 : Nat := 4294967295
theorem w32 : (2 ^ 32 - 1 : Nat) = W32 := by decide
/-- One step of taking all. -/
theorem all_more {L : El} {t : Nat} (h : low L t W32 ≤ 31) : allP L t = (low L t W32, hdv L t (low L t W32)) :: allP (rm L t (low L t W32)) t ∧ left L t = left (rm L t (low L t W32)) t := by
  have := allP_some (L := L) (t := t) (by rw [w32]; omega)
  rwa [w32] at this
theorem all_end {L : El} {t : Nat} (h : ¬ low L t W32 ≤ 31) : allP L t = [] ∧ left L t = L := by
  exact allP_none (by rw [w32]; omega)
theorem rm_less {L : El} {t : Nat} (h : low L t W32 ≤ 31) : (rm L t (low L t W32)).length + 1 = L.length := rm_length (low_some (L := L) (t := t) (W := W32) (by omega)).2.2.1
theorem nx_every {T : Nat} {L : El} {t : Nat} (ht : t < T) : nxN T L t W32 = low L t W32 := nxN_nat W32 ht
theorem allP_len (t : Nat) : ∀ (k : Nat) (L : El), L.length ≤ k → (allP L t).length + (left L t).length = L.length
  | 0, L, h => by
    have : L = [] := List.eq_nil_of_length_eq_zero (by omega)
    subst this
    rfl
  | k + 1, L, h => by
    by_cases hl : low L t W32 ≤ 31
    · obtain ⟨a, b⟩ := all_more hl
      have h1 := rm_less hl
      have := allP_len t k (rm L t (low L t W32)) (by omega)
      rw [a, b]
      simp
      omega
    · obtain ⟨a, b⟩ := all_end hl
      rw [a, b]
      simp
/-- What All tells, of any thread. -/
def allV (T : Nat) (L : El) (t : Int) : List (Nat × Int) := if inT T t then allP L t.toNat else []
theorem all_zero {T S : Nat} {L : El} (h : Ok T S L) {t : Nat} (ht : T ≤ t) : allP L t = [] := by
  refine (all_end ?_).1
  intro hl
  have := (low_some (L := L) (t := t) (W := W32) (by omega)).2.2.1
  have := h.qin this
  omega
def leftV (T : Nat) (L : El) (t : Int) : El := if inT T t then left L t.toNat else L
theorem allV_more {T : Nat} {L : El} {t : Int} (h : nxN T L t W32 ≤ 31) : allV T L t = (nxN T L t W32, hdv L t.toNat (nxN T L t W32)) :: allV T (nxL T L t W32) t ∧ leftV T L t = leftV T (nxL T L t W32) t ∧ (nxL T L t W32).length + 1 = L.length := by
  obtain ⟨k, rfl, hk, e⟩ := nxN_yes h
  have hl : low L k W32 ≤ 31 := by omega
  unfold allV leftV nxL
  rw [if_pos h, inT_nat, decide_eq_true hk, if_pos rfl, if_pos rfl, if_pos rfl, if_pos rfl, e, Int.toNat_natCast]
  exact ⟨(all_more hl).1, (all_more hl).2, rm_less hl⟩
theorem allV_end {T : Nat} {L : El} {t : Int} (h : ¬ nxN T L t W32 ≤ 31) : allV T L t = [] ∧ leftV T L t = L := by
  unfold allV leftV
  cases hb : inT T t with
  | false => rw [if_neg (by simp), if_neg (by simp)]; exact ⟨rfl, rfl⟩
  | true =>
    obtain ⟨k, rfl, hk⟩ := inT_yes hb
    rw [nx_every hk] at h
    rw [if_pos rfl, if_pos rfl, Int.toNat_natCast]
    exact all_end h
theorem wi_at {W : World} {b : Nat} (x : Nat × Int) (h : W.heap[b]? = some (.cells #[.int .i64 (x.1 : Nat), .int .i64 x.2] 47 (0, 0))) : Wi W (.slice (some ⟨b, 0, none⟩) 1 1) [x] := by
  have h : Gr W b (.slice (some ⟨b, 0, none⟩) 1 1) [x] := ⟨rfl, .inr ⟨b, 1, _, rfl, Nat.le_refl _, h, Nat.le_refl _, by unfold maxLen; omega, rfl, rfl⟩⟩
  exact h.wi
theorem alloc_snd (w : World) (A B : Obj) : ((w.alloc A).alloc B).heap[w.heap.size + 1]? = some B := by
  show ((w.heap.push A).push B)[w.heap.size + 1]? = some B
  rw [Array.getElem?_push, if_pos (by simp)]
/-- Taking all under way. -/
structure Aw (w wr : World) (ob T S : Nat) (M : Nat → Nat) (L : El) (t : Int) (v : Value) (acc : Gl) (Lk : El) : Prop where
  rm : ∃ Q, Rm wr ob Q T S M Lk
  ob_ : w.heap.size ≤ ob
  row : Gr wr w.heap.size v acc
  all : acc ++ allV T Lk t = allV T L t
  len : acc.length + Lk.length = L.length
  kp : Kp w wr []
def lenV : Value → Nat
  | .slice _ n _ => n
  | _ => 0
set_option maxRecDepth 100000 in
set_option maxHeartbeats 2000000 in
/-- All. -/
theorem rall_any (w : World) (rb : Nat) (Q : List Nat) (T S : Nat) (M : Nat → Nat) (L : El) (t : Int) (h : Rm w rb Q T S M L) (hok : Ok T S L) (hl : L.length ≤ 600) : Calls Try.prog 34 #[.pointer (some ⟨rb, 0, none⟩), .int .i64 t] w fun e w' => ∃ v, e = .returned v ∧ Gr w' w.heap.size v (allV T L t) ∧ Kp w w' [] := by
  have HC := hid (rcopy_any w rb Q T S M L h)
  have HO := hid hok
  have HL := hid hl
  clear h hok hl
  go_enter Try.func34, Try.ntmps34
  go_wp2_with fail
  refine HC.out.mono ?_
  rintro e w1 ⟨ob, Q', rfl, h1, hob, -, hk⟩
  have HA := hid (show Aw w w1 ob T S M L t (.slice none 0 0) [] L from ⟨⟨Q', h1⟩, hob, Gr.nil _ _, rfl, by simp, hk⟩)
  clear h1 hk hob
  go_wp2
  go_loopw [5] (fun v wr => ∃ ao n cap acc Lk, v = .slice ao n cap ∧ Hid (Aw w wr ob T S M L t (.slice ao n cap) acc Lk ∧ Ok T S Lk)) (fun v _ => 600 - lenV v)
  case atStart => exact ⟨none, 0, 0, [], L, rfl, hid ⟨HA.out, HO.out⟩⟩
  case round =>
    obtain ⟨ao, n, cap, acc, Lk, rfl, hR⟩ := hrel
    obtain ⟨Qk, hRm⟩ := hR.out.1.rm
    have HL2 := hid (show n = acc.length from hR.out.1.row.le.1)
    have hlk : Lk.length ≤ 600 := by have := hR.out.1.len; have := HL.out; omega
    have HX := rnext_any wr ob Qk T S M Lk t W32 hRm hR.out.2 hlk (by decide)
    by_cases hn : nxN T Lk t W32 ≤ 31
    · obtain ⟨e1, -, e3⟩ := allV_more hn
      have hokN := hR.out.2.nx t W32
      unfold nxV nxB at HX
      rw [if_pos hn, decide_eq_true hn] at HX
      unfold Sv at HX
      have HX := hid HX
      generalize nxL T Lk t W32 = Ln at HX e1 e3 hokN
      have HE := hid (And.intro e1 (And.intro e3 hokN))
      generalize hm : nxN T Lk t W32 = m at HX HE
      generalize hdv Lk t.toNat m = v at HX HE
      clear hRm hn e1 e3 hokN hm hlk
      go_wp2_with fail
      refine HX.out.mono ?_
      rintro e w2 ⟨rfl, Q2, hs2, -, hk2⟩
      have hgne : ∀ g, (Value.slice ao n cap).ownBlock = some g → g ∉ [ob] := fun g hg hm => by
        obtain ⟨-, cur, hc⟩ := owns_block hR.out.1.row hg
        simp at hm
        subst hm
        obtain ⟨Q0, V, -, hrc, -⟩ := hR.out.1.rm
        unfold Rc at hrc
        rw [hrc] at hc
        simp at hc
      have GR := hid (hR.out.1.row.kp hk2 hgne)
      have KP := hid (hR.out.1.kp.past hk2 (by intro j hj hl; simp at hj; have := hR.out.1.ob_; omega))
      have RM := hid hs2
      have hws : w.heap.size ≤ w2.heap.size := KP.out.size
      clear hs2 hk2 hgne HX
      go_wp2_with (first
        | (refine wpList_joinG rfl _ _ rfl w.heap.size (.slice ao n cap) _ acc [(m, v)] rfl ((GR.out.keep (Kp.alloc _ _ _)).keep (Kp.alloc _ _ _)) rfl (wi_at (m, v) (alloc_snd _ _ _)) (by have := HL2.out; have := hR.out.1.len; have := HL.out; omega) (by simp) (by simp; omega) ?_; intro v3 w3 hN3 hG3; obtain ⟨ao3, cp3, hv3⟩ := hN3.slice; obtain ⟨n3, hn3⟩ : ∃ n3, (acc ++ [(m, v)]).length = n3 := ⟨_, rfl⟩; rw [hn3] at hv3; subst hv3; have K3 := hid (grown_gr ((GR.out.keep (Kp.alloc _ _ _)).keep (Kp.alloc _ _ _)) hG3 ((KP.out.trans (Kp.alloc _ _ _)).trans (Kp.alloc _ _ _)) (Nat.le_refl _)); have G3 := hid hN3; have GG := hid hG3; have N3 := hid hn3; clear hN3 hG3 hn3)
        | fail)
      have F := hid (show Aw w w3 ob T S M L t (.slice ao3 n3 cp3) (acc ++ [(m, v)]) Ln ∧ Ok T S Ln from by
        obtain ⟨a1, a2, a3⟩ := HE.out
        have hA := hR.out.1
        refine ⟨⟨?_, hA.ob_, G3.out, ?_, ?_, K3.out⟩, a3⟩
        · refine ⟨Q2, ((RM.out.same (Kp.alloc _ _ _)).same (Kp.alloc _ _ _)).keep (Kp.ofGrown (rows := (Value.slice ao n cap).ownBlock.toList) GG.out (by intro g hg; simp [hg])) (fun k hk hm => ?_)⟩
          have hq := owns_block GR.out (g := k) (by simpa using hm)
          obtain ⟨V2, rfl, hrc, her⟩ := RM.out
          obtain ⟨-, cur, hc⟩ := hq
          rcases List.mem_cons.1 hk with rfl | hk
          · unfold Rc at hrc
            rw [hrc] at hc
            simp at hc
          · obtain ⟨-, cur2, hc2⟩ := owns_block her (g := k) (by simpa using hk)
            rw [hc2] at hc
            simp at hc
        · rw [← hA.all, a1]
          simp
        · have := hA.len
          simp
          omega)
      have F2 := hid (show n3 = n + 1 from by have := N3.out; have := HL2.out; simp at *; omega)
      have hlt : n < 600 := by have := HL2.out; have := hR.out.1.len; have := HE.out.2.1; have := HL.out; omega
      clear GR RM KP K3 G3 GG
      go_wp2
      go_roundw
      case rel => exact ⟨ao3, n3, cp3, _, Ln, rfl, F⟩
      case measure => have := F2.out; simp [lenV]; omega
    · obtain ⟨e1, -⟩ := allV_end hn
      unfold nxV nxB nxL at HX
      rw [if_neg hn, if_neg hn, decide_eq_false hn] at HX
      unfold Sv at HX
      have HX := hid HX
      have F := hid (show acc = allV T L t from by have := hR.out.1.all; rw [e1, List.append_nil] at this; exact this)
      clear hRm hn e1 hlk
      go_wp2_with fail
      refine HX.out.mono ?_
      rintro e w2 ⟨rfl, Q2, -, -, hk2⟩
      have F2 := hid (show Gr w2 w.heap.size (.slice ao n cap) (allV T L t) ∧ Kp w w2 [] from by
        refine ⟨?_, hR.out.1.kp.past hk2 (by intro j hj hl; simp at hj; have := hR.out.1.ob_; omega)⟩
        rw [← F.out]
        exact hR.out.1.row.kp hk2 (fun g hg hm => by
          obtain ⟨-, cur, hc⟩ := owns_block hR.out.1.row hg
          simp at hm
          subst hm
          obtain ⟨Q0, V, -, hrc, -⟩ := hR.out.1.rm
          unfold Rc at hrc
          rw [hrc] at hc
          simp at hc))
      clear hk2 HX
      go_wp2
      go_ret
      exact ⟨_, rfl, F2.out.1.keep (Kp.alloc _ _ _), F2.out.2.trans (Kp.alloc _ _ _)⟩
end Go.Proofs.Ytoenipaccnpihaa
