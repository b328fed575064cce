/- ConeSupport, walked. -/
import Derived.Test.YtjjdgiondpnpcaaCJ
namespace Go.Proofs.Ytjjdgiondpnpcaa
open Go.RowKit

/-- The lowest bits of a number, in a row of the call's own. -/
def OList (bs : List Bool) (w : World) (e : Ending) (w' : World) : Prop :=
  ∃ v, e = .returned v ∧ OwnV w' w.heap.size 4 v (bv bs) ∧ Below w.heap.size w w'
set_option maxRecDepth 100000 in
set_option maxHeartbeats 4000000 in
theorem bits_own (n : Int) (m : Nat) (w : World) (hn : 0 ≤ n) (hn1 : n ≤ 1000000) (hm : m ≤ 40) :
    Calls Try.prog 10 #[.int .i64 n, .int .i64 m] w (OList (bitsB n m) w) := by
  go_enter Try.func10, Try.ntmps10
  go_wp2_with fail
  go_loopw [5, 6] (fun v i wr => ∃ k : Nat, k ≤ m ∧ i = .int .i64 k ∧ RowInv w wr 4 v (bv (bitsB n k))) (fun _ i _ => m - (intOf i).toNat)
  case atStart => exact ⟨0, Nat.zero_le _, rfl, Below.refl _ _, OwnV.nil _ _ _⟩
  case round =>
    obtain ⟨k, hkl, rfl, hinv⟩ := hrel
    by_cases hlt : k < m
    · have hsz := hinv.size
      have hown := hinv.own
      have hlen : (bv (bitsB n k)).length = k := by simp [bitsB_length]
      have hband := and_one (n / 2 ^ k) (Int.ediv_nonneg hn (Int.pow_nonneg (by omega))) (Int.le_trans (Int.ediv_le_self _ hn) (by omega))
      have HN := Lib.hid hlen
      have HL := Lib.hid (show (bv (bitsB n k)).length + [Value.bool (n / 2 ^ k % 2 == 1)].length ≤ 2000000 by rw [hlen]; simp; omega)
      clear hlen
      go_wp2_with (at_builtin; go_loud (refine wpList_bools rfl (.tmp 12) (.tmp 18) rfl w.heap.size _ _ (bv (bitsB n k)) [.bool (n / 2 ^ k % 2 == 1)] rfl (hown.alloc _) _ _ _ rfl rfl (vs_one _ _ _) (fun u hu => by simp at hu; subst hu; rfl) HL.out (by simp; omega) ?_); intro v' w' hown' hgr' _)
      go_roundw
      case rel => exact ⟨k + 1, by omega, by go_num, hinv.next (by rw [bitsB_succ, bv, List.map_append]; exact hown') hgr'⟩
      case measure => simp [intOf]; omega
    · have hkk : k = m := by omega
      subst hkk
      have hown := hinv.own
      have lo := hinv.low
      obtain ⟨A, c, rfl, hV⟩ := hinv.own.vs
      go_wp2_with fail
      go_ret
      exact ⟨_, rfl, hown, lo⟩
/-- A cell of an own row is written. -/
theorem OwnV.set {w : World} {base : Nat} {e : TypeId} {b off n c : Nat} {vs : List Value} (h : OwnV w base e (.slice (some ⟨b, off, none⟩) n c) vs) (i : Nat) (hi : i < vs.length) (u : Value) : OwnV (w.setCell ⟨b, off + i, none⟩ u) base e (.slice (some ⟨b, off, none⟩) n c) (vs.set i u) ∧ base ≤ b ∧ w.frozen? ⟨b, off + i, none⟩ = false := by
  obtain ⟨h1, h2⟩ := h
  rcases h2 with ⟨h3, _⟩ | ⟨g, cap, cur, h3, hb, hh, hn, hcm, hs, ht⟩
  · cases h3
  · injection h3 with e1 e2 e3
    injection e1 with e1
    injection e1 with e1 e4
    subst e1 e2 e3 e4
    have hB : Blk w b e cur := hh
    refine ⟨⟨by simp, .inr ⟨b, c, cur.setIfInBounds i u, by simp, hb, ?_, by simpa using hn, hcm, by simpa using hs, ?_⟩⟩, hb, ?_⟩
    · have := hB.put i u
      rw [Nat.zero_add]
      exact this
    · rw [List.length_set, Nat.mul_one, Array.toList_setIfInBounds, List.take_set]
      rw [Nat.mul_one] at ht
      rw [ht]
    · rw [Nat.zero_add]
      exact hB.frozen i

/-- What y becomes. -/
def agreeY (xs : List Bool) (ys : List Bool) (js : List Int) : List Bool := js.foldl (fun y j => y.set (j - 1).toNat (xs.getD (j - 1).toNat false)) ys
theorem agreeY_length (xs : List Bool) (ys : List Bool) (js : List Int) : (agreeY xs ys js).length = ys.length := by
  unfold agreeY
  induction js generalizing ys with
  | nil => rfl
  | cons j r ih => rw [List.foldl_cons, ih, List.length_set]
theorem agreeY_take (xs : List Bool) (ys : List Bool) (js : List Int) (k : Nat) (hk : k < js.length) : agreeY xs ys (js.take (k + 1)) = (agreeY xs ys (js.take k)).set (js[k] - 1).toNat (xs.getD (js[k] - 1).toNat false) := by
  unfold agreeY
  rw [List.take_succ_eq_append_getElem hk, List.foldl_append, List.foldl_cons, List.foldl_nil]
theorem agreeY_get (xs : List Bool) (js : List Int) (hj : ∀ j ∈ js, 1 ≤ j) (i : Nat) : ∀ ys : List Bool, i < ys.length → (agreeY xs ys js).getD i false = if ((i : Int) + 1) ∈ js then xs.getD i false else ys.getD i false := by
  induction js with
  | nil => intro ys _; simp [agreeY]
  | cons j r ih =>
    intro ys hi
    have h1 := hj j (by simp)
    have := ih (fun z hz => hj z (by simp [hz])) (ys.set (j - 1).toNat (xs.getD (j - 1).toNat false)) (by simpa using hi)
    unfold agreeY at this ⊢
    rw [List.foldl_cons, this]
    by_cases hr : ((i : Int) + 1) ∈ r
    · rw [if_pos hr, if_pos (by simp [hr])]
    · rw [if_neg hr]
      by_cases e : (i : Int) + 1 = j
      · rw [if_pos (by simp [e]), List.getD_eq_getElem?_getD, List.getElem?_set, if_pos (by omega), if_pos (by omega)]
        rw [show (j - 1).toNat = i by omega]
        rfl
      · rw [if_neg (by simp [e, hr]), List.getD_eq_getElem?_getD, List.getElem?_set, if_neg (by omega), ← List.getD_eq_getElem?_getD]

/-- What is known of a support. -/
structure SupF (m : Nat) (sup : List Int) : Prop where
  low : ∀ j ∈ sup, 1 ≤ j ∧ j ≤ m
  inc : ∀ i (hi : i + 1 < sup.length), sup[i] < sup[i + 1]
theorem sup_facts (m : Nat) (gs : List (Int × Int)) (l : Int) : SupF m (supK m gs l m) := by
  refine ⟨fun j hj => ?_, fun i hi => ?_⟩
  · obtain ⟨q, hq, rfl⟩ := List.mem_map.1 hj
    obtain ⟨z, hz, rfl⟩ := List.mem_map.1 (List.mem_filter.1 hq).1
    have := List.mem_range.1 hz
    omega
  · have hp : (supK m gs l m).Pairwise (· < ·) := by
      unfold supK
      rw [List.pairwise_map]
      refine List.Pairwise.filter _ ?_
      rw [List.pairwise_map]
      exact List.pairwise_lt_range.imp (fun {a b} h => by omega)
    exact List.pairwise_iff_getElem.1 hp i (i + 1) (by omega) hi (by omega)
theorem sup_agree {m : Nat} {gs : List (Int × Int)} {l : Int} {xs ys : List Bool} (hr : Gm.rightB m gs = true) (hl : Gm.litB m gs.length l = true) (hx : xs.length = m) (hy : ys.length = m) : Em.evalB m gs l (agreeY xs ys (supK m gs l m)) = Em.evalB m gs l xs := by
  rw [Em.evalB_in hr hl (by rw [agreeY_length]; omega), Em.evalB_in hr hl (by omega)]
  have hlf := lit_facts hl
  refine Cm.cone_bit hr (by rw [agreeY_length]; exact hy) hx (by unfold Cm.vr; omega) fun i h1 h2 hi => ?_
  rw [agreeY_get _ _ (fun j hj => ((sup_facts m gs l).low j hj).1) _ _ (by omega), if_pos]
  rw [show ((i - 1 : Nat) : Int) + 1 = (i : Int) by omega]
  exact List.mem_map.2 ⟨i, (Cm.mem_sup hr hl i).2 ⟨h1, h2, hi⟩, rfl⟩
theorem gatesS_le {n : Int} {gs : List (Int × Int)} {l : Int} : Cm.gatesS n gs l ≤ gs.length := by
  unfold Cm.gatesS
  split
  · have := Cm.cnt_le (n := n.toNat) (gs := gs) l
    omega
  · omega
end Go.Proofs.Ytjjdgiondpnpcaa
