/- The lowest signal of a set; Peek. -/
import Derived.Laws.Rows
import Derived.Laws.ResultCell
import Derived.Test.YtoenipaccnpihaaUs
namespace Go.Proofs.Ytoenipaccnpihaa
open Go.RowKit Go.Shelf Go.Sort Go.Maps
open Go.Lib hiding intOf
attribute [local go_sem] Oper.semAt_some

/-- The lowest signal of a set; 32: none. -/
def lowS (s : Nat) : Nat := ((List.range' 1 31).find? fun n => s.testBit n).getD 32
theorem low_S (L : El) (t W : Nat) : low L t W = lowS (pend L t &&& W) := by
  unfold low lowS
  congr 2
  funext n
  rw [Nat.testBit_and, Bool.and_comm]
theorem lowS_of {s n : Nat} (h1 : 1 ≤ n) (h2 : n ≤ 31) (hb : s.testBit n = true) (hm : ∀ m, 1 ≤ m → m < n → s.testBit m = false) : lowS s = n := by
  unfold lowS
  rw [List.find?_range'_eq_some.2 ⟨hb, List.mem_range'_1.2 ⟨h1, by omega⟩, fun j hj1 hj2 => by simp [hm j hj1 hj2]⟩]
  rfl
theorem lowS_no {s : Nat} (hm : ∀ m, 1 ≤ m → m ≤ 31 → s.testBit m = false) : lowS s = 32 := by
  unfold lowS
  rw [List.find?_eq_none.2 fun n hn => by
    have := List.mem_range'_1.1 hn
    rw [hm n (by omega) (by omega)]
    simp]
  rfl
set_option maxRecDepth 100000 in
theorem lowest_any (w : World) (s : Nat) (hs : s < 4294967296) : Calls Try.prog 45 #[.int .u32 (s : Nat)] w fun e w' => e = .returned (.tuple #[.int .i64 (lowS s : Nat), .bool (decide (lowS s ≤ 31))]) ∧ w' = w := by
  have KB := hid (fun (k : Nat) (hk : k < 32) => bit_any w k hk)
  have HS := hid hs
  clear hs
  go_enter Try.func45, Try.ntmps45
  go_wp2
  go_step3
  go_wp2
  go_step3
  go_wp2
  go_loopw [4] (fun v wr => ∃ k : Nat, v = .int .i64 k ∧ wr = w ∧ Hid (1 ≤ k ∧ k ≤ 32 ∧ ∀ m, 1 ≤ m → m < k → s.testBit m = false)) (fun v _ => 40 - (intOf v).toNat)
  case atStart => exact ⟨1, rfl, rfl, hid ⟨by omega, by omega, by omega⟩⟩
  case round =>
    obtain ⟨k, rfl, rfl, hR⟩ := hrel
    obtain ⟨k1, k2, hall⟩ := hR.out
    by_cases hk : k ≤ 31
    · have hkI : (k : Int) ≤ 31 := by omega
      have hb1 : bits .and .u32 (s : Int) (2 ^ k) = ((s &&& 2 ^ k : Nat) : Int) := by
        rw [pow_cast]
        exact and_bits HS.out (bit_lt (k := k) (by omega))
      have hb2 := and_two s k
      generalize s &&& 2 ^ k = z at hb1 hb2
      cases hb : s.testBit k with
      | true =>
        have e := lowS_of k1 hk hb hall
        rw [hb] at hb2
        have HE := hid (show lowS s = k ∧ decide (k ≤ 31) = true ∧ decide ((k : Int) ≤ 31) = true from ⟨e, decide_eq_true hk, decide_eq_true hkI⟩)
        clear hR hall e k2 k1 hk hb
        go_wp2_with fail
        refine (KB.out k (by omega)).mono ?_
        rintro e w1 ⟨rfl, hw⟩; obtain rfl := hw.symm
        go_wp2
        rw [Exit.noGoto_ret]
        go_ret2
        refine ⟨?_, rfl⟩
        rw [HE.out.1, HE.out.2.1]
        try rw [HE.out.2.2]
        rfl
      | false =>
        rw [hb] at hb2
        have HN := hid (show 1 ≤ k + 1 ∧ k + 1 ≤ 32 ∧ ∀ m, 1 ≤ m → m < k + 1 → s.testBit m = false from ⟨by omega, by omega, fun m h1 h2 => by
          by_cases e : m = k
          · rw [e, hb]
          · exact hall m h1 (by omega)⟩)
        clear hR hall k2 k1 hb
        go_wp2_with fail
        refine (KB.out k (by omega)).mono ?_
        rintro e w1 ⟨rfl, hw⟩; obtain rfl := hw.symm
        go_wp2
        go_roundw
        case rel => exact ⟨k + 1, by simp, trivial, HN⟩
        case measure => simp [intOf]; omega
    · have hkI : ¬ (k : Int) ≤ 31 := by omega
      have e32 : k = 32 := by omega
      subst e32
      have e : lowS s = 32 := lowS_no fun m h1 h2 => hall m h1 (by omega)
      have HE := hid e
      clear hR hall e k2 k1 hk
      go_wp2
      go_ret2
      refine ⟨?_, rfl⟩
      rw [HE.out]
      rfl
/-- A signal by value. -/
def Sv (n v : Int) : Value := .agg #[.int .i64 n, .int .i64 v]
/-- What Peek and Next tell: which number (32: none), which value. -/
def nxN (T : Nat) (L : El) (t : Int) (W : Nat) : Nat := lowS (pendingV T L t &&& W)
def nxV (T : Nat) (L : El) (t : Int) (W : Nat) : Value := if nxN T L t W ≤ 31 then Sv (nxN T L t W : Nat) (hdv L t.toNat (nxN T L t W)) else Sv 0 0
def nxB (T : Nat) (L : El) (t : Int) (W : Nat) : Bool := decide (nxN T L t W ≤ 31)
theorem lowS_zero : lowS 0 = 32 := lowS_no fun m _ _ => by simp
theorem nxN_nat {T : Nat} {L : El} {t : Nat} (W : Nat) (ht : t < T) : nxN T L t W = low L t W := by
  rw [low_S]
  unfold nxN pendingV
  rw [inT_nat, decide_eq_true ht, if_pos rfl]
  simp
theorem nxN_yes {T : Nat} {L : El} {t : Int} {W : Nat} (h : nxN T L t W ≤ 31) : ∃ k : Nat, t = k ∧ k < T ∧ nxN T L t W = low L k W := by
  cases hb : inT T t with
  | true =>
    obtain ⟨k, rfl, hk⟩ := inT_yes hb
    exact ⟨k, rfl, hk, nxN_nat W hk⟩
  | false =>
    unfold nxN pendingV at h
    rw [hb, if_neg (by simp), Nat.zero_and, lowS_zero] at h
    omega
theorem results_cell_row2 {P : Program} {fn : Func} {p u : Tmp} {ty : TypeId} (h : fn.results = #[.cell p ty, .tmp u]) (tmps : Array Value) (w : World) (g : Nat) (t : TypeId) (cs : Array Value) (fr : Nat × Nat) (d : TypeDesc)
    (hp : tmps.getD p undef = .pointer (some ⟨g, 0, none⟩)) (hg : w.heap[g]? = some (.cells cs t fr))
    (hu : P.underlying ty = some d) (hd : (match d with | .struct _ | .array _ _ => true | _ => false) = true) (hi : (P.info? ty).map (·.size) = some cs.size) :
    (results fn tmps).run P w = .ok (.tuple #[.agg cs, tmps.getD u undef]) w := by
  have hp' : tmps[p]?.getD undef = .pointer (some ⟨g, 0, none⟩) := by simpa using hp
  simp [results, h, hp', asAddr, run_loadVar_row w g t ty cs fr d hg hu hd hi]
theorem size47 (a b : Value) : (Try.prog.info? 47).map (·.size) = some (#[a, b] : Array Value).size := by kernel_rfl
set_option maxRecDepth 100000 in
theorem peek_zero (w : World) (p : Option Addr) (t : Int) (W : Nat) (hW : W < 4294967296) (h : Zs w p) : Calls Try.prog 23 #[.pointer p, .int .i64 t, .int .u32 W] w fun e w' => e = .returned (.tuple #[Sv 0 0, .bool false]) ∧ Kp w w' [] := by
  unfold Sv
  have HK := hid (Kp.alloc w (.cells #[.int .i64 0, .int .i64 0] 47) [])
  have H := hid (pending_zero _ p t (h.keep HK.out))
  have hb := and_bits (u := 0) (v := W) (by omega) hW
  rw [Nat.zero_and] at hb
  have hb : bits .and .u32 0 (W : Int) = 0 := hb
  have K := lowest_any (w.alloc (.cells #[.int .i64 0, .int .i64 0] 47)) 0 (by omega)
  rw [lowS_zero] at K
  have K := hid K
  clear h
  go_enter Try.func23, Try.ntmps23
  go_wp2_with fail
  refine H.out.mono ?_
  rintro e w1 ⟨rfl, hw⟩; obtain rfl := hw.symm
  go_wp2_with fail
  refine K.out.mono ?_
  rintro e w1 ⟨rfl, hw⟩; obtain rfl := hw.symm
  go_wp2
  refine bodyPost_ret (results_cell_row2 rfl _ _ w.heap.size 47 #[.int .i64 0, .int .i64 0] (0, 0) _ rfl (heap_alloc_new w _) Try.underlying47 rfl (size47 _ _)) rfl ?_
  exact ⟨rfl, HK.out⟩
end Go.Proofs.Ytoenipaccnpihaa
