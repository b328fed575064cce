/- The images of a cone's literals; what has been copied when some gates have come. -/
import Derived.Test.YtjjdgiondpnpcaaCE
namespace Go.Proofs.Ytjjdgiondpnpcaa
open Go.RowKit Go.Shelf

namespace Cm
/-- One gate is copied, into a list of images that is there whole. -/
def stepF (nt : Int) (nf : Nat) (fg : List (Int × Int)) (i : Nat) (s : List (Int × Int) × List Int) : Except Int (List (Int × Int) × List Int) :=
  if (Gm.andS nt s.1 (isL s.2 (fg.getD i (0, 0)).1) (isL s.2 (fg.getD i (0, 0)).2)).2.2 = 0 then
    .ok ((Gm.andS nt s.1 (isL s.2 (fg.getD i (0, 0)).1) (isL s.2 (fg.getD i (0, 0)).2)).1.2, s.2.set (nf + 1 + i) (Gm.andS nt s.1 (isL s.2 (fg.getD i (0, 0)).1) (isL s.2 (fg.getD i (0, 0)).2)).2.1)
  else .error (Gm.andS nt s.1 (isL s.2 (fg.getD i (0, 0)).1) (isL s.2 (fg.getD i (0, 0)).2)).2.2
def foldF (nt : Int) (nf : Nat) (fg : List (Int × Int)) (s0 : List (Int × Int) × List Int) (pre : List (Fin fg.length)) : Except Int (List (Int × Int) × List Int) :=
  pre.foldl (fun s i => s.bind (stepF nt nf fg i.1)) (.ok s0)
theorem foldF_snoc (nt : Int) (nf : Nat) (fg : List (Int × Int)) (s0 : List (Int × Int) × List Int) (pre : List (Fin fg.length)) (x : Fin fg.length) : foldF nt nf fg s0 (pre ++ [x]) = (foldF nt nf fg s0 pre).bind (stepF nt nf fg x.1) := by simp [foldF]
/-- The images ahead of all gates. -/
def img0 (by_ : List Int) (m : Nat) : List Int := 0 :: (by_ ++ List.replicate m 0)
def padE (m : Nat) : Except Int (List (Int × Int) × List Int) → Except Int (List (Int × Int) × List Int)
  | .error e => .error e
  | .ok (t, is) => .ok (t, is ++ List.replicate m 0)
theorem copyAt_len {nt : Int} {tg : List (Int × Int)} {nf : Nat} {fg : List (Int × Int)} {inn : List Bool} {by_ : List Int} (hb : by_.length = nf) : ∀ (k : Nat) (t : List (Int × Int)) (is : List Int), copyAt nt tg nf fg inn by_ k = .ok (t, is) → is.length = nf + 1 + k
  | 0, t, is, h => by
    rw [copyAt] at h
    injection h with h
    injection h with h1 h2
    subst h2
    simp [hb]
  | k + 1, t, is, h => by
    rw [copyAt] at h
    cases hc : copyAt nt tg nf fg inn by_ k with
    | error e => rw [hc] at h; cases h
    | ok s =>
      obtain ⟨t', is'⟩ := s
      rw [hc] at h
      simp only [stepC] at h
      have := copyAt_len hb k t' is' hc
      split at h
      · split at h
        · injection h with h
          injection h with h1 h2
          subst h2
          simp; omega
        · cases h
      · injection h with h
        injection h with h1 h2
        subst h2
        simp; omega
theorem isL_pre (is r : List Int) {l : Int} (h : vr l < is.length) : isL (is ++ r) l = isL is l := by
  unfold isL
  rw [Em.getD_pre _ _ _ h]
theorem fold_copy {nt : Int} {tg : List (Int × Int)} {nf : Nat} {fg : List (Int × Int)} {inn : List Bool} {by_ : List Int} (hL : Low nf fg) (hb : by_.length = nf) :
    ∀ k, k ≤ fg.length → foldF nt nf fg (tg, img0 by_ fg.length) (upF fg.length (fun i => inn.getD (nf + 1 + i) false) k) = padE (fg.length - k) (copyAt nt tg nf fg inn by_ k)
  | 0, _ => by simp [upF, foldF, copyAt, padE, img0]
  | k + 1, h => by
    have hk : k < fg.length := by omega
    have ih := fold_copy (nt := nt) (tg := tg) (inn := inn) hL hb k (by omega)
    rw [copyAt]
    cases hi : inn.getD (nf + 1 + k) false with
    | false =>
      rw [upF_no hi, ih]
      cases hc : copyAt nt tg nf fg inn by_ k with
      | error e => rfl
      | ok s =>
        obtain ⟨t, is⟩ := s
        simp only [padE, stepC]
        rw [hi]
        simp only [Bool.false_eq_true, if_false, padE]
        rw [show fg.length - k = (fg.length - (k + 1)) + 1 by omega, List.replicate_succ]
        simp
    | true =>
      rw [upF_yes hk hi, foldF_snoc, ih]
      cases hc : copyAt nt tg nf fg inn by_ k with
      | error e => rfl
      | ok s =>
        obtain ⟨t, is⟩ := s
        have hl := copyAt_len hb k t is hc
        have hlow := hL k hk
        simp only [padE, stepC, Except.bind, stepF]
        rw [hi, gate_at hk, isL_pre _ _ (by omega), isL_pre _ _ (by omega)]
        simp only [if_true]
        generalize Gm.andS nt t (isL is (fg[k]).1) (isL is (fg[k]).2) = r
        by_cases he : r.2.2 = 0
        · rw [if_pos he, if_pos he]
          simp only [padE]
          rw [List.set_append, if_neg (by omega), hl, Nat.sub_self, show fg.length - k = (fg.length - (k + 1)) + 1 by omega, List.replicate_succ]
          simp
        · rw [if_neg he, if_neg he]
theorem copyAt_err {nt : Int} {tg : List (Int × Int)} {nf : Nat} {fg : List (Int × Int)} {inn : List Bool} {by_ : List Int} {e : Int} {k : Nat} (h : copyAt nt tg nf fg inn by_ k = .error e) : ∀ j, copyAt nt tg nf fg inn by_ (k + j) = .error e
  | 0 => h
  | j + 1 => by rw [← Nat.add_assoc, copyAt, copyAt_err h j]
/-- All images are small. -/
def Sm (is : List Int) : Prop := ∀ u, 0 ≤ is.getD u 0 ∧ is.getD u 0 ≤ 4001
theorem Sm.set {is : List Int} (h : Sm is) (i : Nat) {x : Int} (h0 : 0 ≤ x) (h1 : x ≤ 4001) : Sm (is.set i x) := by
  intro u
  have := h u
  rw [List.getD_eq_getElem?_getD] at this ⊢
  rw [List.getElem?_set]
  split
  · split
    · simpa using ⟨h0, h1⟩
    · simp
  · exact this
theorem Sm.img0 {by_ : List Int} (h : ∀ x ∈ by_, 0 ≤ x ∧ x ≤ 4001) (m : Nat) : Sm (img0 by_ m) := by
  intro u
  unfold Cm.img0
  cases u with
  | zero => simp
  | succ u =>
    rw [List.getD_cons_succ, List.getD_eq_getElem?_getD]
    by_cases hu : u < by_.length
    · rw [List.getElem?_append_left hu, List.getElem?_eq_getElem hu]
      exact h _ (List.getElem_mem hu)
    · rw [List.getElem?_append_right (by omega), List.getElem?_replicate]
      split <;> simp
theorem copyS_err {nt nf : Nat} {tg fg : List (Int × Int)} {l : Int} {by_ : List Int} (hrt : Gm.rightB nt tg = true) (hrf : Gm.rightB nf fg = true) (hl : Gm.litB nf fg.length l = true) (hb : by_.length = nf) (hall : by_.all (Gm.litB nt tg.length) = true) {k : Nat} (hk : k ≤ fg.length) {er : Int}
    (h : foldF nt nf fg (tg, img0 by_ fg.length) (upF fg.length (inCone nf fg l) k) = .error er) : copyS nt tg nf fg l by_ = Gm.bad er := by
  have e := fold_copy (nt := nt) (tg := tg) (inn := below nf fg l) (Low.of_right hrf) hb k hk
  have e2 : copyAt nt tg nf fg (below nf fg l) by_ k = .error er := by
    have h' := e.symm.trans h
    cases hc : copyAt nt tg nf fg (below nf fg l) by_ k with
    | error x => rw [hc] at h'; injection h' with h'; rw [h']
    | ok s => obtain ⟨t, is⟩ := s; rw [hc] at h'; cases h'
  have e3 := copyAt_err e2 (fg.length - k)
  rw [show k + (fg.length - k) = fg.length by omega] at e3
  unfold copyS
  rw [if_pos ⟨hrt, hrf, hl, by omega, hall⟩, Int.toNat_natCast, e3]
theorem copyS_ok {nt nf : Nat} {tg fg : List (Int × Int)} {l : Int} {by_ : List Int} (hrt : Gm.rightB nt tg = true) (hrf : Gm.rightB nf fg = true) (hl : Gm.litB nf fg.length l = true) (hb : by_.length = nf) (hall : by_.all (Gm.litB nt tg.length) = true) {t : List (Int × Int)} {is : List Int}
    (h : foldF nt nf fg (tg, img0 by_ fg.length) (upF fg.length (inCone nf fg l) fg.length) = .ok (t, is)) : copyS nt tg nf fg l by_ = (((nt : Int), t), isL is l, 0) := by
  have e := fold_copy (nt := nt) (tg := tg) (inn := below nf fg l) (Low.of_right hrf) hb fg.length (Nat.le_refl _)
  have e2 : copyAt nt tg nf fg (below nf fg l) by_ fg.length = .ok (t, is) := by
    have h' := e.symm.trans h
    cases hc : copyAt nt tg nf fg (below nf fg l) by_ fg.length with
    | error x => rw [hc] at h'; cases h'
    | ok s =>
      obtain ⟨t', is'⟩ := s
      rw [hc] at h'
      simp only [padE, Nat.sub_self, List.replicate_zero, List.append_nil] at h'
      exact h'
  unfold copyS
  rw [if_pos ⟨hrt, hrf, hl, by omega, hall⟩, Int.toNat_natCast, e2]
end Cm

theorem bits_isL {x l : Int} (h0 : 0 ≤ x) (h1 : x ≤ 4001) (hl : 0 ≤ l) (hl1 : l ≤ 1000000) : bits .xor .i64 x (bits .and .i64 l 1) = if l % 2 = 1 then Gm.negB x else x := by
  rw [and_one l hl hl1]
  by_cases h : l % 2 = 1
  · rw [if_pos h, h, Gm.bits_neg x h0 (by omega)]
  · rw [if_neg h, show l % 2 = 0 by omega, xor_zero x h0 (by omega)]

set_option maxRecDepth 100000 in
set_option maxHeartbeats 4000000 in
theorem image_any (ib vb N : Nat) (is : List Int) (l : Int) (w : World) (hb : w.cell? ⟨ib, 0, none⟩ = some (.slice (some ⟨vb, 0, none⟩) N N)) (hm : Blk w vb 3 (iv is).toArray) (hN : is.length = N) (hN1 : N ≤ 4000) (h0 : 0 ≤ l) (hl : Cm.vr l < N) (hs : Cm.Sm is) :
    Calls Try.prog 39 #[.int .i64 l, .pointer (some ⟨ib, 0, none⟩)] w fun e w' => e = .returned (.int .i64 (Cm.isL is l)) ∧ ∃ m, w' = w.drewN m := by
  obtain ⟨b, off, e, _, hc⟩ := hm.vs.int (Cm.vr l) (by omega)
  injection e with e
  injection e with e1 e2
  subst e1 e2
  rw [Nat.zero_add] at hc
  have hq : l / 2 = ((Cm.vr l : Nat) : Int) := by unfold Cm.vr; omega
  have hx := hs (Cm.vr l)
  have HC := Lib.hid (fun W => cvar_any l W h0 (by omega))
  rw [hq] at HC
  have HB := Lib.hid (bits_isL hx.1 hx.2 h0 (by omega))
  unfold Cm.isL
  have hix := ixI vb 0 N N (Cm.vr l) (by omega) hl
  rw [Nat.zero_add] at hix
  generalize is.getD (Cm.vr l) 0 = x at *
  clear hq hm hs hN
  generalize Cm.vr l = r at *
  generalize (if l % 2 = 1 then Gm.negB x else x) = z at *
  go_enter Try.func39, Try.ntmps39
  go_wp2_with fail
  go_quiet ((go_at_call 36; exact Calls.quiet_of_same (HC.out _)))
  go_wp2
  go_ret
  exact ⟨by rw [← HB.out]; rfl, _, rfl⟩
end Go.Proofs.Ytjjdgiondpnpcaa
