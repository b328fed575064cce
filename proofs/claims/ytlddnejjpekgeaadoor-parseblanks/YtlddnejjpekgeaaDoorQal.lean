/- Formulas in memory: keywords, plain names, atoms' texts. -/
import Derived.Test.YtlddnejjpekgeaaDoorQak
import Derived.Test.YtlddnejjpekgeaaDoorQac
import Derived.Test.YtlddnejjpekgeaaDoorTie
import Derived.Test.YtlddnejjpekgeaaDoorCards
import Derived.ProofKit
import Derived.LaidMore
import Derived.OpenShut
import Derived.ShutString
import Derived.Lib.LaidTab
import Derived.Stop.Joined
import Derived.SevenTiedAt
import Derived.ChangeMaps5
import Derived.Deep.Slices
import Derived.Lib.SmallJoins
namespace Go.Proofs.YtlddnejjpekgeaaDoor
open Go.RowKit

theorem plain_all_run {s : Tk.Bs} (h : s.all Tk.plainB = true) : Tk.runS Tk.plainB s = s.length := by
  induction s with
  | nil => rfl
  | cons b t ih =>
    simp only [List.all_cons, Bool.and_eq_true] at h
    rw [Tk.runS, if_pos h.1, ih h.2, List.length_cons]
theorem run_all_plain {s : Tk.Bs} (h : Tk.runS Tk.plainB s = s.length) : s.all Tk.plainB = true := by
  induction s with
  | nil => rfl
  | cons b t ih =>
    rw [Tk.runS] at h
    split at h
    · rename_i hb
      rw [List.length_cons] at h
      simp only [List.all_cons, Bool.and_eq_true]
      exact ⟨hb, ih (by omega)⟩
    · rw [List.length_cons] at h
      omega
theorem lex_first (s : Tk.Bs) (hw : Fm.wordB s = true) : (s.all Tk.plainB = true ∧ Tk.lexA s = ([⟨1, s, 0⟩, ⟨0, [], s.length⟩], 0, 0)) ∨ (s.all Tk.plainB = false ∧ ((∃ a, Tk.lexA s = ([], 40, a)) ∨ ∃ t r, Tk.lexA s = (t :: r, 0, 0) ∧ ¬ (t.k = 1 ∧ t.t = s))) := by
  simp only [Fm.wordB, Bool.and_eq_true, decide_eq_true_eq] at hw
  obtain ⟨h1, h20, hq⟩ := hw
  have hq0 : Tk.quotB (s[0]) = true := List.all_eq_true.1 hq _ (List.getElem_mem _)
  have hb0 : Tk.blankB (s[0]) = false := by
    simp only [Tk.quotB, Tk.blankB, decide_eq_true_eq, decide_eq_false_iff_not] at hq0 ⊢
    omega
  have hs0 : Tk.skipS s 0 = 0 := Tk.skip_not (by omega) hb0
  have hqt : Tk.quotedS s = 0 := by
    unfold Tk.quotedS
    rw [if_neg]
    rintro ⟨h, _⟩
    rw [List.getElem?_eq_getElem (by omega)] at h
    injection h with h
    rw [h] at hq0
    revert hq0
    decide
  have hscan : Tk.lexS s = (if (Tk.firstS s).2 = 0 then ([], some 0) else
    (⟨(Tk.firstS s).1, s.take (Tk.firstS s).2, 0⟩ :: (Tk.scan s s.length (Tk.skipS s (0 + (Tk.firstS s).2))).1, (Tk.scan s s.length (Tk.skipS s (0 + (Tk.firstS s).2))).2)) := by
    unfold Tk.lexS
    rw [hs0, Tk.scan, if_neg (by omega), List.drop_zero]
  have hlA : ∀ l o, Tk.lexS s = (l, o) → Tk.lexA s = match o with | none => (l, 0, 0) | some a => ([], 40, a) := by
    intro l o e
    unfold Tk.lexA
    rw [if_neg (by omega), e]
    cases o <;> rfl
  by_cases hp : s.all Tk.plainB = true
  · refine Or.inl ⟨hp, ?_⟩
    have hr := plain_all_run hp
    have hf : Tk.firstS s = (1, s.length) := by
      unfold Tk.firstS
      rw [if_pos (by omega), hr]
    have hsk : Tk.skipS s (0 + s.length) = s.length := by
      unfold Tk.skipS
      rw [Nat.zero_add, List.drop_length]
      rfl
    have hend : Tk.scan s s.length s.length = ([⟨0, [], s.length⟩], none) := by
      obtain ⟨n, hn⟩ : ∃ n, s.length = n + 1 := ⟨s.length - 1, by omega⟩
      have : ∀ a, Tk.scan s (n + 1) a = if s.length ≤ a then ([⟨0, [], s.length⟩], none) else
        if (Tk.firstS (s.drop a)).2 = 0 then ([], some a) else
        (⟨(Tk.firstS (s.drop a)).1, (s.drop a).take (Tk.firstS (s.drop a)).2, a⟩ :: (Tk.scan s n (Tk.skipS s (a + (Tk.firstS (s.drop a)).2))).1, (Tk.scan s n (Tk.skipS s (a + (Tk.firstS (s.drop a)).2))).2) := fun a => by rw [Tk.scan]
      have h2 := this s.length
      rw [if_pos (Nat.le_refl _)] at h2
      rw [← h2, ← hn]
    rw [hf] at hscan
    simp only at hscan
    rw [if_neg (by omega), hsk, hend, List.take_length] at hscan
    exact hlA _ _ hscan
  · have hpf : s.all Tk.plainB = false := by
      cases h : s.all Tk.plainB
      · rfl
      · exact absurd h hp
    refine Or.inr ⟨hpf, ?_⟩
    by_cases h0 : (Tk.firstS s).2 = 0
    · rw [if_pos h0] at hscan
      exact Or.inl ⟨0, hlA _ _ hscan⟩
    · rw [if_neg h0] at hscan
      rcases ho : (Tk.scan s s.length (Tk.skipS s (0 + (Tk.firstS s).2))).2 with _ | a
      · rw [ho] at hscan
        refine Or.inr ⟨_, _, hlA _ _ hscan, ?_⟩
        rintro ⟨e1, e2⟩
        simp only at e1 e2
        unfold Tk.firstS at e1 e2
        by_cases hr : Tk.runS Tk.plainB s ≠ 0
        · rw [if_pos hr] at e2
          simp only at e2
          have hle := Tk.run_le Tk.plainB s
          have hl : (s.take (Tk.runS Tk.plainB s)).length = s.length := by rw [e2]
          rw [List.length_take] at hl
          exact hp (run_all_plain (by omega))
        · rw [if_neg hr, hqt, if_neg (by simp)] at e1
          simp at e1
      · rw [ho] at hscan
        exact Or.inl ⟨a, hlA _ _ hscan⟩
theorem key_eq (s : Tk.Bs) : Fm.keyB s = ((s == [116, 114, 117, 101]) || ((s == [102, 97, 108, 115, 101]) || ((s == [69]) || ((s == [65]) || ((s == [69, 88]) || ((s == [65, 88]) || ((s == [69, 70]) || ((s == [65, 70]) || ((s == [69, 71]) || ((s == [65, 71]) || ((s == [85]) || ((s == [82]))))))))))))) := by
  unfold Fm.keyB Fm.keysL
  simp only [List.contains_cons, List.contains_nil, Bool.or_false]
set_option maxRecDepth 10000 in
set_option maxHeartbeats 4000000 in
theorem iskeyword_any (s : Tk.Bs) (w : World) : Calls Tryd.prog 60 #[.string (bsv s)] w fun e w' => e = .returned (.bool (Fm.keyB s)) ∧ w = w' := by
  have HK := Lib.hid (key_eq s)
  have q0 := eq_lit s [116, 114, 117, 101]
  have q1 := eq_lit s [102, 97, 108, 115, 101]
  have q2 := eq_lit s [69]
  have q3 := eq_lit s [65]
  have q4 := eq_lit s [69, 88]
  have q5 := eq_lit s [65, 88]
  have q6 := eq_lit s [69, 70]
  have q7 := eq_lit s [65, 70]
  have q8 := eq_lit s [69, 71]
  have q9 := eq_lit s [65, 71]
  have q10 := eq_lit s [85]
  have q11 := eq_lit s [82]
  cases h0 : (s == ([116, 114, 117, 101] : Tk.Bs)) with
  | true =>
    have HV : Hid (Fm.keyB s = true) := by unfold Hid; rw [HK.out]; simp only [h0, Bool.true_or, Bool.false_or, Bool.or_true]
    rw [h0] at q0
    clear h0
    go_enter Tryd.func60, Tryd.ntmps60
    go_wp2
    go_ret
    exact ⟨by rw [HV.out]; rfl, rfl⟩
  | false =>
  rw [h0] at q0
  cases h1 : (s == ([102, 97, 108, 115, 101] : Tk.Bs)) with
  | true =>
    have HV : Hid (Fm.keyB s = true) := by unfold Hid; rw [HK.out]; simp only [h0, h1, Bool.true_or, Bool.false_or, Bool.or_true]
    rw [h1] at q1
    clear h0 h1
    go_enter Tryd.func60, Tryd.ntmps60
    go_wp2
    go_ret
    exact ⟨by rw [HV.out]; rfl, rfl⟩
  | false =>
  rw [h1] at q1
  cases h2 : (s == ([69] : Tk.Bs)) with
  | true =>
    have HV : Hid (Fm.keyB s = true) := by unfold Hid; rw [HK.out]; simp only [h0, h1, h2, Bool.true_or, Bool.false_or, Bool.or_true]
    rw [h2] at q2
    clear h0 h1 h2
    go_enter Tryd.func60, Tryd.ntmps60
    go_wp2
    go_ret
    exact ⟨by rw [HV.out]; rfl, rfl⟩
  | false =>
  rw [h2] at q2
  cases h3 : (s == ([65] : Tk.Bs)) with
  | true =>
    have HV : Hid (Fm.keyB s = true) := by unfold Hid; rw [HK.out]; simp only [h0, h1, h2, h3, Bool.true_or, Bool.false_or, Bool.or_true]
    rw [h3] at q3
    clear h0 h1 h2 h3
    go_enter Tryd.func60, Tryd.ntmps60
    go_wp2
    go_ret
    exact ⟨by rw [HV.out]; rfl, rfl⟩
  | false =>
  rw [h3] at q3
  cases h4 : (s == ([69, 88] : Tk.Bs)) with
  | true =>
    have HV : Hid (Fm.keyB s = true) := by unfold Hid; rw [HK.out]; simp only [h0, h1, h2, h3, h4, Bool.true_or, Bool.false_or, Bool.or_true]
    rw [h4] at q4
    clear h0 h1 h2 h3 h4
    go_enter Tryd.func60, Tryd.ntmps60
    go_wp2
    go_ret
    exact ⟨by rw [HV.out]; rfl, rfl⟩
  | false =>
  rw [h4] at q4
  cases h5 : (s == ([65, 88] : Tk.Bs)) with
  | true =>
    have HV : Hid (Fm.keyB s = true) := by unfold Hid; rw [HK.out]; simp only [h0, h1, h2, h3, h4, h5, Bool.true_or, Bool.false_or, Bool.or_true]
    rw [h5] at q5
    clear h0 h1 h2 h3 h4 h5
    go_enter Tryd.func60, Tryd.ntmps60
    go_wp2
    go_ret
    exact ⟨by rw [HV.out]; rfl, rfl⟩
  | false =>
  rw [h5] at q5
  cases h6 : (s == ([69, 70] : Tk.Bs)) with
  | true =>
    have HV : Hid (Fm.keyB s = true) := by unfold Hid; rw [HK.out]; simp only [h0, h1, h2, h3, h4, h5, h6, Bool.true_or, Bool.false_or, Bool.or_true]
    rw [h6] at q6
    clear h0 h1 h2 h3 h4 h5 h6
    go_enter Tryd.func60, Tryd.ntmps60
    go_wp2
    go_ret
    exact ⟨by rw [HV.out]; rfl, rfl⟩
  | false =>
  rw [h6] at q6
  cases h7 : (s == ([65, 70] : Tk.Bs)) with
  | true =>
    have HV : Hid (Fm.keyB s = true) := by unfold Hid; rw [HK.out]; simp only [h0, h1, h2, h3, h4, h5, h6, h7, Bool.true_or, Bool.false_or, Bool.or_true]
    rw [h7] at q7
    clear h0 h1 h2 h3 h4 h5 h6 h7
    go_enter Tryd.func60, Tryd.ntmps60
    go_wp2
    go_ret
    exact ⟨by rw [HV.out]; rfl, rfl⟩
  | false =>
  rw [h7] at q7
  cases h8 : (s == ([69, 71] : Tk.Bs)) with
  | true =>
    have HV : Hid (Fm.keyB s = true) := by unfold Hid; rw [HK.out]; simp only [h0, h1, h2, h3, h4, h5, h6, h7, h8, Bool.true_or, Bool.false_or, Bool.or_true]
    rw [h8] at q8
    clear h0 h1 h2 h3 h4 h5 h6 h7 h8
    go_enter Tryd.func60, Tryd.ntmps60
    go_wp2
    go_ret
    exact ⟨by rw [HV.out]; rfl, rfl⟩
  | false =>
  rw [h8] at q8
  cases h9 : (s == ([65, 71] : Tk.Bs)) with
  | true =>
    have HV : Hid (Fm.keyB s = true) := by unfold Hid; rw [HK.out]; simp only [h0, h1, h2, h3, h4, h5, h6, h7, h8, h9, Bool.true_or, Bool.false_or, Bool.or_true]
    rw [h9] at q9
    clear h0 h1 h2 h3 h4 h5 h6 h7 h8 h9
    go_enter Tryd.func60, Tryd.ntmps60
    go_wp2
    go_ret
    exact ⟨by rw [HV.out]; rfl, rfl⟩
  | false =>
  rw [h9] at q9
  cases h10 : (s == ([85] : Tk.Bs)) with
  | true =>
    have HV : Hid (Fm.keyB s = true) := by unfold Hid; rw [HK.out]; simp only [h0, h1, h2, h3, h4, h5, h6, h7, h8, h9, h10, Bool.true_or, Bool.false_or, Bool.or_true]
    rw [h10] at q10
    clear h0 h1 h2 h3 h4 h5 h6 h7 h8 h9 h10
    go_enter Tryd.func60, Tryd.ntmps60
    go_wp2
    go_ret
    exact ⟨by rw [HV.out]; rfl, rfl⟩
  | false =>
  rw [h10] at q10
  cases h11 : (s == ([82] : Tk.Bs)) with
  | true =>
    have HV : Hid (Fm.keyB s = true) := by unfold Hid; rw [HK.out]; simp only [h0, h1, h2, h3, h4, h5, h6, h7, h8, h9, h10, h11, Bool.true_or, Bool.false_or, Bool.or_true]
    rw [h11] at q11
    clear h0 h1 h2 h3 h4 h5 h6 h7 h8 h9 h10 h11
    go_enter Tryd.func60, Tryd.ntmps60
    go_wp2
    go_ret
    exact ⟨by rw [HV.out]; rfl, rfl⟩
  | false =>
  rw [h11] at q11
  have HV : Hid (Fm.keyB s = false) := by unfold Hid; rw [HK.out]; simp only [h0, h1, h2, h3, h4, h5, h6, h7, h8, h9, h10, h11, Bool.or_self]
  clear h0 h1 h2 h3 h4 h5 h6 h7 h8 h9 h10 h11
  go_enter Tryd.func60, Tryd.ntmps60
  go_wp2
  go_ret
  exact ⟨by rw [HV.out]; rfl, rfl⟩
end Go.Proofs.YtlddnejjpekgeaaDoor
/- Formulas in memory: plain names, atoms' texts. -/
namespace Go.Proofs.YtlddnejjpekgeaaDoor
open Go.RowKit

theorem tok_eql (k a : Int) (s s2 : Tk.Bs) (w : World) : (binOp .eql 53 (.agg #[.int .i64 k, .string (bsv s), .int .i64 a]) (.agg #[.int .i64 1, .string (bsv s2), .int .i64 0])).run Tryd.prog w = .ok (.bool (decide (k = 1 ∧ s = s2 ∧ a = 0))) w := by
  have u3 := Tryd.underlying3
  have a3 := Tryd.isAgg3
  have z3 := Tryd.sizeOf3
  have u4 := Tryd.underlying9
  have a4 := Tryd.isAgg9
  have z4 := Tryd.sizeOf9
  have hS : Tryd.prog.underlying 53 = some (.struct (Tryd.prog.fieldsOf 53)) := by kernel_rfl
  have hp : Tryd.prog.stoodInHeld 53 = false := by kernel_rfl
  generalize hd : decide (k = 1 ∧ s = s2 ∧ a = 0) = d
  have HD := Lib.hid hd
  clear hd
  rw [run_eql_struct, show (10000 : Nat) = 9999 + 1 from rfl, run_equalIn_agg w 9999 53 _ _ hS hp]
  simp only [Program.fieldsOf, Tryd.underlying53]
  go_simp
  have e : ((bsv s).toList = (bsv s2).toList) ↔ s = s2 := by rw [Lib.toList_data, Lib.toList_data]; exact Iff.rfl
  have hd := HD.out
  subst hd
  by_cases h1 : k = 1
  · by_cases h2 : s = s2
    · by_cases h3 : a = 0
      · rw [if_pos h1, if_pos (e.2 h2), if_pos h3, decide_eq_true ⟨h1, h2, h3⟩]
      · rw [if_pos h1, if_pos (e.2 h2), if_neg h3, decide_eq_false (fun h => h3 h.2.2)]
    · rw [if_pos h1, if_neg (fun h => h2 (e.1 h)), decide_eq_false (fun h => h2 h.2.1)]
  · rw [if_neg h1, decide_eq_false (fun h => h1 h.1)]
theorem addw (u x : Tk.Bs) (h : u.length + x.length ≤ 1000000) (w : World) : (Op.stringOp .add (bsv u) (bsv x)).run Tryd.prog w = .ok (.string (bsv (u ++ x))) w := by
  rw [run_string_add_sum w _ _ (by rw [bsv_size, bsv_size]; omega)]
  refine congrArg (fun s => Result.ok (Value.string s) w) ?_
  apply ByteArray.ext
  simp [bsv]
set_option maxRecDepth 10000 in
set_option maxHeartbeats 4000000 in
theorem isplain_any (s : Tk.Bs) (w : World) (hw : Fm.wordB s = true) (hg : Sig w) (h0 : 0 < w.heap.size) :
    Calls Tryd.prog 59 #[.string (bsv s)] w fun e w' => e = .returned (.bool (s.all Tk.plainB)) ∧ Below w.heap.size w w' := by
  have hs : s.length ≤ 9223372036854775807 := by
    simp only [Fm.wordB, Bool.and_eq_true, decide_eq_true_eq] at hw
    omega
  have HX := Lib.hid (lex_any s w hs hg h0)
  have HF := Lib.hid (lex_first s hw)
  clear hw hs hg
  go_enter Tryd.func59, Tryd.ntmps59
  go_wp2_with fail
  refine HX.out.mono ?_
  intro e w1 hQ
  clear HX
  unfold LexP at hQ
  have fin : ∀ (ts : List Tk.Tok) (t : Tk.Tok) (r : List Tk.Tok), ts = t :: r → ∀ v, w1.ownsRow w.heap.size 53 3 v ts.length (flatT ts) → ∃ b c, v = .slice (some ⟨b, 0, none⟩) ts.length c ∧ w1.cell? ⟨b, 0, none⟩ = some (.int .i64 (t.k : Int)) ∧ w1.cell? ⟨b, 1, none⟩ = some (.string (bsv t.t)) ∧ w1.cell? ⟨b, 2, none⟩ = some (.int .i64 (t.a : Int)) := by
    intro ts t r ht v hrow
    subst ht
    obtain ⟨b, c, e, _, hT⟩ := row_TL hrow (by simp)
    obtain ⟨g0, g1, g2⟩ := hT.2.2 0 (by simp)
    exact ⟨b, c, e, g0, g1, g2⟩
  rcases HF.out with ⟨hp, hA⟩ | ⟨hp, ⟨a, hA⟩ | ⟨t, r, hA, hn⟩⟩
  · rw [hA] at hQ
    obtain ⟨v, rfl, hrow, hb1⟩ := hQ
    obtain ⟨b, c, rfl, g0, g1, g2⟩ := fin _ _ _ rfl v hrow
    have HP := Lib.hid hp
    have hix := ix0 b 0 ([⟨1, s, 0⟩, ⟨0, [], s.length⟩] : List Tk.Tok).length c (by simp)
    have hE := tok_eql 1 0 s s
    rw [decide_eq_true ⟨rfl, rfl, rfl⟩] at hE
    clear hrow HF hA hp fin
    go_wp2
    go_ret
    exact ⟨by rw [HP.out]; rfl, hb1⟩
  · rw [hA] at hQ
    obtain ⟨v, rfl, hrow, hb1⟩ := hQ
    have HP := Lib.hid hp
    clear hrow HF hA hp fin
    go_wp2
    go_ret
    exact ⟨by rw [HP.out]; rfl, hb1⟩
  · rw [hA] at hQ
    obtain ⟨v, rfl, hrow, hb1⟩ := hQ
    obtain ⟨b, c, rfl, g0, g1, g2⟩ := fin _ _ _ rfl v hrow
    have HP := Lib.hid hp
    have hix := ix0 b 0 (t :: r).length c (by simp)
    have hE := tok_eql t.k t.a t.t s
    rw [decide_eq_false (fun h => hn ⟨by have := h.1; omega, h.2.1⟩)] at hE
    clear hrow HF hA hp fin hn
    go_wp2
    go_ret
    exact ⟨by rw [HP.out]; rfl, hb1⟩
set_option maxRecDepth 10000 in
set_option maxHeartbeats 4000000 in
theorem atom_text (s : Tk.Bs) (w : World) (hw : Fm.wordB s = true) (hg : Sig w) (h0 : 0 < w.heap.size) :
    Calls Tryd.prog 46 #[.string (bsv s)] w fun e w' => e = .returned (.string (bsv (Fm.atomS s))) ∧ Below w.heap.size w w' := by
  have HX := Lib.hid (isplain_any s w hw hg h0)
  have HKY := Lib.hid (fun V => iskeyword_any s V)
  have hl : s.length ≤ 20 := by
    simp only [Fm.wordB, Bool.and_eq_true, decide_eq_true_eq] at hw
    exact hw.2.1
  have ad1 : ∀ w, (Op.stringOp .add ⟨#[34]⟩ (bsv s)).run Tryd.prog w = .ok (.string (bsv (34 :: s))) w := addw [34] s (by simp; omega)
  have ad2 : ∀ w, (Op.stringOp .add (bsv (34 :: s)) ⟨#[34]⟩).run Tryd.prog w = .ok (.string (bsv (34 :: (s ++ [34])))) w := addw (34 :: s) [34] (by simp; omega)
  clear hw hg hl
  have e1 : Fm.atomS s = if s.all Tk.plainB = true ∧ Fm.keyB s = false then s else 34 :: (s ++ [34]) := by
    unfold Fm.atomS Fm.plainNm
    cases s.all Tk.plainB <;> cases Fm.keyB s <;> rfl
  go_enter Tryd.func46, Tryd.ntmps46
  go_wp2_with fail
  refine HX.out.mono ?_
  rintro e w1 ⟨rfl, hb1⟩
  clear HX
  cases hp : s.all Tk.plainB with
  | false =>
    have HE : Hid (Fm.atomS s = 34 :: (s ++ [34])) := by
      unfold Hid
      rw [e1, hp]
      rfl
    clear e1 hp HKY
    go_wp2
    go_ret
    exact ⟨by rw [HE.out]; rfl, hb1⟩
  | true =>
    cases hk : Fm.keyB s with
    | true =>
      have HE : Hid (Fm.atomS s = 34 :: (s ++ [34])) := by
        unfold Hid
        rw [e1, hp, hk]
        rfl
      rw [hk] at HKY
      clear e1 hp hk
      go_wp2_with fail
      refine (HKY.out _).mono ?_
      rintro e w2 ⟨rfl, rfl⟩
      go_wp2
      go_ret
      exact ⟨by rw [HE.out]; rfl, hb1⟩
    | false =>
      have HE : Hid (Fm.atomS s = s) := by
        unfold Hid
        rw [e1, hp, hk]
        rfl
      rw [hk] at HKY
      clear e1 hp hk
      go_wp2_with fail
      refine (HKY.out _).mono ?_
      rintro e w2 ⟨rfl, rfl⟩
      go_wp2
      go_ret
      exact ⟨by rw [HE.out]; rfl, hb1⟩
end Go.Proofs.YtlddnejjpekgeaaDoor
/- Formulas in memory: texts. -/
namespace Go.Proofs.YtlddnejjpekgeaaDoor
open Go.RowKit

def TextC (n : Nat) : Prop := ∀ (f : Fm.F) (v T : Value) (w : World), f.okB = true → f.cnt ≤ n → FV w (Lo w.heap.size) f v → KT w T → Sig w → 0 < w.heap.size →
  Calls Tryd.prog 38 #[T, v] w fun e w' => e = .returned (.string (bsv f.text)) ∧ Below w.heap.size w w'
def InnerC (n : Nat) : Prop := ∀ (f : Fm.F) (v T : Value) (w : World), f.okB = true → f.cnt ≤ n → FV w (Lo w.heap.size) f v → KT w T → Sig w → 0 < w.heap.size →
  Calls Tryd.prog 47 #[T, v] w fun e w' => e = .returned (.string (bsv (Fm.parS f.k f.text))) ∧ Below w.heap.size w w'
theorem klook1 {w : World} {m : Value} (h : KT w m) (k : Int) :
    (Instr.lookup 65 m (.int .i64 k) false).run Tryd.prog w = .ok (.agg #[.int .i64 (kidsI k), .string (bsv (Fm.befS k)), .string (bsv (Fm.betS k)), .string (bsv (Fm.behS k)), .bool (Fm.looseB k)]) w := by
  rw [klook h k false, if_neg (by simp), kOf_is]
theorem pfield (k : Int) (a b c : ByteArray) (l : Bool) (w : World) : (Instr.field 77 (.agg #[.int .i64 (kidsI k), .string a, .string b, .string c, .bool l]) 4).run Tryd.prog w = .ok (.bool l) w := by
  generalize kidsI k = z
  kernel_rfl
set_option maxRecDepth 10000 in
set_option maxHeartbeats 4000000 in
theorem inner_of (n : Nat) (hn : n ≤ 2000) (ih0 : TextC n) : InnerC n := by
  have ih := Lib.hid ih0
  clear ih0
  intro f v T w hok hc hf hT hg h0
  cases f with
  | mk k nm lit ks =>
    have hf0 := hf
    rw [FV] at hf
    obtain ⟨A, c, rfl, hl⟩ := hf
    have lo := lowAlloc w (Obj.cells #[.int .i64 k, .string ⟨nm.toArray⟩, .int .i64 lit, .slice A ks.length c] 24)
    have hb0 := Blk.new w 24 #[.int .i64 k, .string ⟨nm.toArray⟩, .int .i64 lit, .slice A ks.length c]
    have hTA := hT.on lo
    have HX := Lib.hid (ih.out (.mk k nm lit ks) _ T _ hok hc (hf0.on lo) hTA (hg.below lo h0) (Nat.lt_of_lt_of_le h0 lo.size))
    have hlk := klook1 hTA k
    have htl := Fm.text_len hok
    have hP : Hid (Fm.parS k (Fm.F.text (.mk k nm lit ks)) = if Fm.looseB k = true then 40 :: (Fm.F.text (.mk k nm lit ks) ++ [41]) else Fm.F.text (.mk k nm lit ks)) := rfl
    show Calls Tryd.prog 47 _ w fun e w' => e = .returned (.string (bsv (Fm.parS k (Fm.F.text (.mk k nm lit ks))))) ∧ Below w.heap.size w w'
    generalize Fm.F.text (.mk k nm lit ks) = t at *
    have ad1 : ∀ w, (Op.stringOp .add ⟨#[40]⟩ (bsv t)).run Tryd.prog w = .ok (.string (bsv (40 :: t))) w := addw [40] t (by simp; omega)
    have ad2 : ∀ w, (Op.stringOp .add (bsv (40 :: t)) ⟨#[41]⟩).run Tryd.prog w = .ok (.string (bsv (40 :: (t ++ [41])))) w := addw (40 :: t) [41] (by simp; omega)
    clear hl hf0 hT hTA hg h0 hok hc htl
    go_enter Tryd.func47, Tryd.ntmps47
    go_upto_region 1 with fail
    generalize w.alloc (Obj.cells #[.int .i64 k, .string ⟨nm.toArray⟩, .int .i64 lit, .slice A ks.length c] 24) = W at *
    have k0 := hb0.cell 0
    have k1 := hb0.cell 1
    have k2 := hb0.cell 2
    have k3 := hb0.cell 3
    simp only [List.getElem?_toArray, List.getElem?_cons_zero, List.getElem?_cons_succ] at k0 k1 k2 k3
    cases hlo : Fm.looseB k with
    | true =>
      rw [hlo] at hlk hP
      have hfd := pfield k (bsv (Fm.befS k)) (bsv (Fm.betS k)) (bsv (Fm.behS k)) true
      have HP := hP
      clear hP hlo
      go_wp2_with fail
      refine HX.out.mono ?_
      rintro e w2 ⟨rfl, hb2⟩
      clear HX k0 k1 k2 k3
      go_wp2
      go_ret
      exact ⟨by rw [HP.out]; rfl, lo.trans (hb2.mono lo.size)⟩
    | false =>
      rw [hlo] at hlk hP
      have hfd := pfield k (bsv (Fm.befS k)) (bsv (Fm.betS k)) (bsv (Fm.behS k)) false
      have HP := hP
      clear hP hlo
      go_wp2_with fail
      refine HX.out.mono ?_
      rintro e w2 ⟨rfl, hb2⟩
      clear HX k0 k1 k2 k3
      go_wp2
      go_ret
      exact ⟨by rw [HP.out]; rfl, lo.trans (hb2.mono lo.size)⟩
theorem okb_mk {k : Int} {nm : Tk.Bs} {lit : Int} {ks : List Fm.F} (h : (Fm.F.mk k nm lit ks).okB = true) : Fm.nodeB k nm lit ks.length = true ∧ Fm.okL ks = true := by
  rw [Fm.F.okB, Bool.and_eq_true] at h
  exact h
theorem node_word {nm : Tk.Bs} {lit : Int} {n : Nat} (h : Fm.nodeB 3 nm lit n = true) : Fm.wordB nm = true := by
  unfold Fm.nodeB at h
  simp only [Bool.and_eq_true, if_pos] at h
  exact h.2.2
theorem cnt_kid {ks : List Fm.F} {f : Fm.F} (h : f ∈ ks) : f.cnt ≤ Fm.cntL ks := by
  induction ks with
  | nil => cases h
  | cons a r ih =>
    rw [Fm.cntL]
    rcases List.mem_cons.1 h with rfl | h
    · omega
    · have := ih h
      omega
set_option maxRecDepth 10000 in
set_option maxHeartbeats 4000000 in
theorem text_step (n : Nat) (hn : n < 2000) (ih0 : InnerC n) : TextC (n + 1) := by
  have ih := Lib.hid ih0
  clear ih0
  intro f v T w hok hc hf hT hg h0
  cases f with
  | mk k nm lit ks =>
    rw [FV] at hf
    obtain ⟨A, c, rfl, hl⟩ := hf
    obtain ⟨hnode, hkok⟩ := okb_mk hok
    have lo := lowAlloc w (Obj.cells #[.int .i64 k, .string ⟨nm.toArray⟩, .int .i64 lit, .slice A ks.length c] 24)
    have hb0 := Blk.new w 24 #[.int .i64 k, .string ⟨nm.toArray⟩, .int .i64 lit, .slice A ks.length c]
    have hTA := hT.on lo
    have hgA := hg.below lo h0
    have h0A := Nat.lt_of_lt_of_le h0 lo.size
    have hlA := hl.on lo
    have htl := Fm.text_len hok
    have hcc : (Fm.F.mk k nm lit ks).cnt = 1 + Fm.cntL ks := rfl
    have hP : Fm.F.text (.mk k nm lit ks) = if k = 3 then Fm.atomS nm else Fm.befS k ++ (Fm.textL k true ks ++ Fm.behS k) := by rw [Fm.F.text]
    clear hl hT hg h0 hok
    by_cases h3 : k = 3
    · subst h3
      have HX := Lib.hid (atom_text nm _ (node_word hnode) hgA h0A)
      have HP : Hid (Fm.F.text (.mk 3 nm lit ks) = Fm.atomS nm) := by unfold Hid; rw [hP, if_pos rfl]
      clear hP hnode hkok hTA hgA h0A hlA htl hcc hc
      go_enter Tryd.func38, Tryd.ntmps38
      go_upto_region 1 with fail
      generalize w.alloc (Obj.cells #[.int .i64 3, .string ⟨nm.toArray⟩, .int .i64 lit, .slice A ks.length c] 24) = W at *
      have k0 := hb0.cell 0
      have k1 := hb0.cell 1
      simp only [List.getElem?_toArray, List.getElem?_cons_zero, List.getElem?_cons_succ] at k0 k1
      go_wp2_with fail
      refine HX.out.mono ?_
      rintro e w2 ⟨rfl, hb2⟩
      clear HX k0 k1
      go_wp2
      go_ret
      exact ⟨by rw [HP.out]; rfl, lo.trans (hb2.mono lo.size)⟩
    · have HP : Hid (Fm.F.text (.mk k nm lit ks) = Fm.befS k ++ (Fm.textL k true ks ++ Fm.behS k)) := by unfold Hid; rw [hP, if_neg h3]
      have hq3 : (k == 3) = false := by rw [beq_eq_false_iff_ne]; exact h3
      have hk2 := node_small hnode
      have hlen : (Fm.befS k ++ (Fm.textL k true ks ++ Fm.behS k)).length ≤ 44000 := by
        rw [← HP.out]
        omega
      have hlk := klook1 hTA k
      have HOK := Lib.hid (Fm.okL_mem hkok)
      clear hP hnode hkok htl h3
      go_enter Tryd.func38, Tryd.ntmps38
      go_upto_region 1 with fail
      generalize w.alloc (Obj.cells #[.int .i64 k, .string ⟨nm.toArray⟩, .int .i64 lit, .slice A ks.length c] 24) = W at *
      have hWw : w.heap.size < W.heap.size := hb0.lt
      have k0 := hb0.cell 0
      have k3 := hb0.cell 3
      simp only [List.getElem?_toArray, List.getElem?_cons_zero, List.getElem?_cons_succ] at k0 k3
      go_upto_region 4 with fail
      have lo2 := lowAlloc W (Obj.cells #[.int .i64 (kidsI k), .string (bsv (Fm.befS k)), .string (bsv (Fm.betS k)), .string (bsv (Fm.behS k)), .bool (Fm.looseB k)] 77)
      have hbp := Blk.new W 77 #[.int .i64 (kidsI k), .string (bsv (Fm.befS k)), .string (bsv (Fm.betS k)), .string (bsv (Fm.behS k)), .bool (Fm.looseB k)]
      have hb2 := hb0.below lo2 hb0.lt
      have hl2 := hlA.on lo2
      have hT2 := hTA.on lo2
      have hg2 := hgA.below lo2 h0A
      have h02 := Nat.lt_of_lt_of_le h0A lo2.size
      have hlo := lo.trans (lo2.mono lo.size)
      clear k0 k3 lo lo2 hb0 hlk hTA hgA h0A hlA hq3
      generalize W.alloc (Obj.cells #[.int .i64 (kidsI k), .string (bsv (Fm.befS k)), .string (bsv (Fm.betS k)), .string (bsv (Fm.behS k)), .bool (Fm.looseB k)] 77) = W2 at *
      have k3 := hb2.cell 3
      have p1 := hbp.cell 1
      simp only [List.getElem?_toArray, List.getElem?_cons_zero, List.getElem?_cons_succ] at k3 p1
      go_wp2
      clear k3 p1 hb2
      have HL := Lib.hid hl2
      have HT := Lib.hid hT2
      have HG := Lib.hid hg2
      have HB := Lib.hid hbp
      have HLN := Lib.hid hlen
      clear hl2 hT2 hg2 hbp hlen
      go_loopw [6, 24] (fun a i wr => ∃ (j : Nat) (t : Tk.Bs), j ≤ ks.length ∧ i = .int .i64 (j : Int) ∧ a = .string (bsv t) ∧ Fm.befS k ++ Fm.textL k true ks = t ++ Fm.textL k (decide (j = 0)) (ks.drop j) ∧ Below W2.heap.size W2 wr) (fun _ i _ => ks.length - (intOf i).toNat)
      case atStart => exact ⟨0, Fm.befS k, Nat.zero_le _, rfl, rfl, rfl, Below.refl _ _⟩
      case round =>
        obtain ⟨j, t, hj, rfl, rfl, hE, hbw⟩ := hrel
        have hEl : t.length + (Fm.textL k (decide (j = 0)) (ks.drop j)).length + (Fm.behS k).length ≤ 44000 := by
          have e1 := congrArg List.length hE
          have e2 := HLN.out
          simp only [List.length_append] at e1 e2
          omega
        have HE := Lib.hid hE
        clear hE
        have hBW := hlo.trans (hbw.mono hlo.size)
        have hbpr := HB.out.below hbw HB.out.lt
        by_cases hlt : j < ks.length
        · obtain ⟨b, off, A', c', hA, hK, g0, g1, g2, g3, hfv⟩ := FL.at ks A 0 (HL.out.on hbw) j hlt
          subst hA
          have hix := ixF b off ks.length c j (by omega) hlt
          rw [Nat.zero_add] at g0 g1 g2 g3
          have hlB := lowAlloc wr (Obj.cells #[.int .i64 ks[j].k, .string ⟨ks[j].nm.toArray⟩, .int .i64 ks[j].lit, .slice A' ks[j].ks.length c'] 24)
          have hbB := Blk.new wr 24 #[.int .i64 ks[j].k, .string ⟨ks[j].nm.toArray⟩, .int .i64 ks[j].lit, .slice A' ks[j].ks.length c']
          have hfB := hfv.on hlB
          have hTB := (HT.out.on hbw).on hlB
          have hgB := (HG.out.below hbw h02).below hlB (Nat.lt_of_lt_of_le h02 hbw.size)
          have h0B := Nat.lt_of_lt_of_le (Nat.lt_of_lt_of_le h02 hbw.size) hlB.size
          have hBB := hBW.trans (hlB.mono hBW.size)
          have hbB2 := hbw.trans (hlB.mono hbw.size)
          have hbpB := hbpr.below hlB hbpr.lt
          have hmem : ks[j] ∈ ks := List.getElem_mem hlt
          have hdr : ks.drop j = ks[j] :: ks.drop (j + 1) := List.drop_eq_getElem_cons hlt
          have HS := Lib.hid (ih.out ks[j] _ T _ (HOK.out _ hmem) (by have := cnt_kid hmem; omega) hfB hTB hgB h0B)
          rw [hdr, Fm.textL] at hEl
          have HE2 : Hid (Fm.befS k ++ Fm.textL k true ks = (t ++ (if decide (j = 0) = true then [] else Fm.betS k)) ++ Fm.parS ks[j].k ks[j].text ++ Fm.textL k (decide (j + 1 = 0)) (ks.drop (j + 1))) := by
            unfold Hid
            rw [HE.out, hdr, Fm.textL, decide_eq_false (by omega : ¬ j + 1 = 0)]
            simp only [List.append_assoc]
          clear HE hdr hmem
          simp only [List.length_append] at hEl
          generalize Fm.parS ks[j].k ks[j].text = x at *
          go_upto_region 8 with fail
          clear hix g0 g1 g2 g3 hfv hlB hK hbw hBW hTB hgB h0B hbpr hfB
          generalize wr.alloc (Obj.cells #[.int .i64 ks[j].k, .string ⟨ks[j].nm.toArray⟩, .int .i64 ks[j].lit, .slice A' ks[j].ks.length c'] 24) = W3 at *
          have q0 := hbB.cell 0
          have q1 := hbB.cell 1
          have q2 := hbB.cell 2
          have q3 := hbB.cell 3
          have p2 := hbpB.cell 2
          simp only [List.getElem?_toArray, List.getElem?_cons_zero, List.getElem?_cons_succ] at q0 q1 q2 q3 p2
          clear hbB hbpB
          by_cases hj0 : j = 0
          · subst hj0
            rw [if_pos (by rfl)] at hEl
            have HE3 : Hid (Fm.befS k ++ Fm.textL k true ks = (t ++ x) ++ Fm.textL k (decide (0 + 1 = 0)) (ks.drop (0 + 1))) := by
              unfold Hid
              rw [HE2.out, if_pos (by rfl), List.append_nil]
            have hadd := addw t x (by simp at hEl; omega)
            clear HE2 hEl
            go_wp2_with fail
            refine HS.out.mono ?_
            rintro e w4 ⟨rfl, hb4⟩
            have hBn := hBB.trans (hb4.mono hBB.size)
            have hbn := hbB2.trans (hb4.mono hbB2.size)
            clear HS q0 q1 q2 q3 p2 hb4 hBB hbB2
            go_wp2
            go_roundw
            case rel => exact ⟨0 + 1, t ++ x, by omega, by go_num, rfl, HE3.out, hbn⟩
            case measure => simp [intOf]; omega
          · rw [if_neg (by simp [hj0])] at hEl
            have hjp : (0 : Int) < (j : Int) := by omega
            have HE3 : Hid (Fm.befS k ++ Fm.textL k true ks = ((t ++ Fm.betS k) ++ x) ++ Fm.textL k (decide (j + 1 = 0)) (ks.drop (j + 1))) := by
              unfold Hid
              rw [HE2.out, if_neg (by simp [hj0])]
            have hadd0 := addw t (Fm.betS k) (by omega)
            have hadd := addw (t ++ Fm.betS k) x (by rw [List.length_append]; omega)
            clear HE2 hEl
            go_wp2_with fail
            refine HS.out.mono ?_
            rintro e w4 ⟨rfl, hb4⟩
            have hBn := hBB.trans (hb4.mono hBB.size)
            have hbn := hbB2.trans (hb4.mono hbB2.size)
            clear HS q0 q1 q2 q3 p2 hb4 hBB hbB2
            go_wp2
            go_roundw
            case rel => exact ⟨j + 1, t ++ (Fm.betS k ++ x), by omega, by go_num, rfl, by rw [HE3.out, List.append_assoc t], hbn⟩
            case measure => simp [intOf]; omega
        · obtain rfl : j = ks.length := by omega
          have HF : Hid (Fm.F.text (.mk k nm lit ks) = t ++ Fm.behS k) := by
            unfold Hid
            have := HE.out
            rw [List.drop_length, Fm.textL, List.append_nil] at this
            rw [HP.out, ← List.append_assoc, this]
          have p3 := hbpr.cell 3
          simp only [List.getElem?_toArray, List.getElem?_cons_zero, List.getElem?_cons_succ] at p3
          have hadd := addw t (Fm.behS k) (by omega)
          clear HE HP hEl
          go_wp2
          go_ret
          exact ⟨by rw [HF.out]; rfl, hBW⟩
theorem texts_all : ∀ n, n ≤ 2000 → TextC n ∧ InnerC n
  | 0, _ => by
    have h : TextC 0 := fun f _ _ _ _ hc => by have := Fm.cnt_pos f; omega
    exact ⟨h, inner_of 0 (by omega) h⟩
  | n + 1, h => by
    have h1 := text_step n (by omega) (texts_all n (by omega)).2
    exact ⟨h1, inner_of (n + 1) (by omega) h1⟩
end Go.Proofs.YtlddnejjpekgeaaDoor
/- Formulas in memory: Print. -/
namespace Go.Proofs.YtlddnejjpekgeaaDoor
open Go.RowKit

/-- What Print answers. -/
def printV (f : Fm.F) : Value := .tuple #[.string (bsv (if Fm.validB f = true then f.text else [])), .int .i64 (if Fm.validB f = true then 0 else 1)]
theorem printV_ok {f : Fm.F} (h : Fm.validB f = true) : printV f = .tuple #[.string (bsv f.text), .int .i64 0] := by
  unfold printV
  rw [if_pos h, if_pos h]
theorem printV_bad {f : Fm.F} (h : Fm.validB f = false) : printV f = .tuple #[.string ⟨#[]⟩, .int .i64 1] := by
  unfold printV
  rw [h]
  rfl
theorem Sig.drew {w : World} (h : Sig w) : Sig w.drew := h
set_option maxRecDepth 10000 in
set_option maxHeartbeats 4000000 in
theorem Print_any (f : Fm.F) (v : Value) (w : World) (hf : FV w (Lo w.heap.size) f v) (hg : Sig w) (h0 : 0 < w.heap.size) :
    Calls Tryd.prog 21 #[v] w fun e w' => e = .returned (printV f) ∧ Below w.heap.size w w' := by
  cases f with
  | mk k nm lit ks =>
    have hf0 := hf
    rw [FV] at hf
    obtain ⟨A, c, rfl, hl⟩ := hf
    have lo := lowAlloc w (Obj.cells #[.int .i64 k, .string ⟨nm.toArray⟩, .int .i64 lit, .slice A ks.length c] 24)
    have hb0 := Blk.new w 24 #[.int .i64 k, .string ⟨nm.toArray⟩, .int .i64 lit, .slice A ks.length c]
    have hfA := hf0.on lo
    have hgA := hg.below lo h0
    have h0A := Nat.lt_of_lt_of_le h0 lo.size
    have HR := Lib.hid (Right_any (.mk k nm lit ks) _ _ hfA)
    clear hl hf0 hg h0
    go_enter Tryd.func21, Tryd.ntmps21
    go_upto_region 1 with fail
    generalize w.alloc (Obj.cells #[.int .i64 k, .string ⟨nm.toArray⟩, .int .i64 lit, .slice A ks.length c] 24) = W at *
    have k0 := hb0.cell 0
    have k1 := hb0.cell 1
    have k2 := hb0.cell 2
    have k3 := hb0.cell 3
    simp only [List.getElem?_toArray, List.getElem?_cons_zero, List.getElem?_cons_succ] at k0 k1 k2 k3
    cases hv : Fm.validB (.mk k nm lit ks) with
    | false =>
      rw [hv] at HR
      have HV := Lib.hid (printV_bad hv)
      clear hv hfA hgA h0A
      go_wp2_with fail
      refine HR.out.mono ?_
      rintro e w2 ⟨rfl, hb2⟩
      clear HR k0 k1 k2 k3
      go_wp2
      refine bodyPost_ret (v := .tuple #[.string ⟨#[]⟩, .int .i64 1]) (by simp [results, Tryd.results21, go_sem]) rfl ?_
      exact ⟨by rw [HV.out], lo.trans (hb2.mono lo.size)⟩
    | true =>
      rw [hv] at HR
      have hok : (Fm.F.mk k nm lit ks).okB = true ∧ (Fm.F.mk k nm lit ks).cnt ≤ 2000 := by
        unfold Fm.validB at hv
        simp only [Bool.and_eq_true, decide_eq_true_eq] at hv
        exact ⟨hv.1, hv.2.2⟩
      have HV := Lib.hid (printV_ok hv)
      clear hv
      go_wp2_with fail
      refine HR.out.mono ?_
      rintro e w2 ⟨rfl, hb2⟩
      clear HR k0 k1 k2 k3
      have hfB := hfA.on hb2
      have hgB := hgA.below hb2 h0A
      have h0B := Nat.lt_of_lt_of_le h0A hb2.size
      have hbB := hb0.below hb2 hb0.lt
      have hlo := lo.trans (hb2.mono lo.size)
      clear hfA hgA h0A hb0 hb2 lo
      have HS : Hid (∀ V T, KT V T → Below w2.heap.size w2 V → Calls Tryd.prog 38 #[T, .agg #[.int .i64 k, .string ⟨nm.toArray⟩, .int .i64 lit, .slice A ks.length c]] V fun e w' => e = .returned (.string (bsv (Fm.F.text (.mk k nm lit ks)))) ∧ Below V.heap.size V w') := by
        intro V T hT hb
        exact (texts_all 2000 (Nat.le_refl _)).1 _ _ T V hok.1 hok.2 (hfB.on hb) hT (hgB.below hb h0B) (Nat.lt_of_lt_of_le h0B hb.size)
      have HK : Hid (∀ V, Below w2.heap.size w2 V → (V.cell? ⟨w.heap.size, 0, none⟩ = some (.int .i64 k) ∧ V.cell? ⟨w.heap.size, 1, none⟩ = some (.string ⟨nm.toArray⟩) ∧ V.cell? ⟨w.heap.size, 2, none⟩ = some (.int .i64 lit) ∧ V.cell? ⟨w.heap.size, 3, none⟩ = some (.slice A ks.length c))) := fun V hV => by
        have hb := hbB.below hV hbB.lt
        exact ⟨hb.cell 0, hb.cell 1, hb.cell 2, hb.cell 3⟩
      have HN := Lib.hid kinds_any
      have lx := Below.refl w2.heap.size w2
      clear hfB hgB h0B hbB hok
      go_upto_region 3 with fail
      go_region_held3 (fun V => V.cell? ⟨w.heap.size, 0, none⟩ = some (.int .i64 k) ∧ V.cell? ⟨w.heap.size, 1, none⟩ = some (.string ⟨nm.toArray⟩) ∧ V.cell? ⟨w.heap.size, 2, none⟩ = some (.int .i64 lit) ∧ V.cell? ⟨w.heap.size, 3, none⟩ = some (.slice A ks.length c))
        (first | exact HK.out _ lx | exact HK.out _ lx.drew)
        (first | (go_at_call 37; (with_reducible refine (HN.out _).mono ?_); rintro e w1 ⟨T, rfl, hT, hb1⟩; have hT1 := hT; replace lx := lx.drew.trans (hb1.mono lx.size))
               | (go_at_call 38; (with_reducible refine (HS.out _ _ hT1.drew lx.drew).mono ?_); rintro e w3 ⟨rfl, hb3⟩; replace lx := lx.drew.trans (hb3.mono lx.size))
               | (go_at_call 38; (with_reducible refine (HS.out _ _ hT1 lx).mono ?_); rintro e w3 ⟨rfl, hb3⟩; replace lx := lx.trans (hb3.mono lx.size)))
      go_wp2
      refine bodyPost_ret (v := .tuple #[.string (bsv (Fm.F.text (.mk k nm lit ks))), .int .i64 0]) (by simp [results, Tryd.results21, go_sem]) rfl ?_
      exact ⟨by rw [HV.out], hlo.trans (lx.mono hlo.size)⟩
end Go.Proofs.YtlddnejjpekgeaaDoor
/- Formulas in memory: the reference's Same. -/
namespace Go.Proofs.YtlddnejjpekgeaaDoor
open Go.RowKit

namespace Fm
mutual
def F.eqB : F → F → Bool
  | .mk k nm lit ks, .mk k' nm' lit' ks' => decide (k = k') && (decide (nm = nm') && (decide (lit = lit') && eqL ks ks'))
def eqL : List F → List F → Bool
  | [], [] => true
  | a :: r, b :: s => a.eqB b && eqL r s
  | [], _ :: _ => false
  | _ :: _, [] => false
end
theorem eqL_iff (ks : List F) (h : ∀ f ∈ ks, ∀ g, f.eqB g = true ↔ f = g) : ∀ ms, eqL ks ms = true ↔ ks = ms := by
  induction ks with
  | nil =>
    intro ms
    cases ms <;> simp [eqL]
  | cons a r ih =>
    intro ms
    cases ms with
    | nil => simp [eqL]
    | cons b s =>
      rw [eqL, Bool.and_eq_true, h a (List.mem_cons_self ..), ih (fun f hf => h f (List.mem_cons_of_mem _ hf)), List.cons.injEq]
theorem eqB_iff (f : F) : ∀ g, f.eqB g = true ↔ f = g := by
  induction f using F.ind with
  | h k nm lit ks ih =>
    intro g
    cases g with
    | mk k' nm' lit' ks' =>
      rw [F.eqB]
      simp only [Bool.and_eq_true, decide_eq_true_eq, eqL_iff ks ih, F.mk.injEq]
theorem eqB_self (f : F) : f.eqB f = true := (eqB_iff f f).2 rfl
theorem eqL_len {ks ms : List F} (h : ks.length ≠ ms.length) : eqL ks ms = false := by
  induction ks generalizing ms with
  | nil =>
    cases ms with
    | nil => exact absurd rfl h
    | cons b s => rfl
  | cons a r ih =>
    cases ms with
    | nil => rfl
    | cons b s =>
      rw [eqL, ih (by simpa using h), Bool.and_false]
theorem eqB_or (f g : F) : f.eqB g = true ∨ f.eqB g = false := by cases f.eqB g <;> simp
end Fm
/-- What is asked of the reference's Same, so deep. -/
def RSameC (d : Nat) : Prop := ∀ (f g : Fm.F) (v u : Value) (w : World), f.dep ≤ d → f.cnt ≤ 1000000 → FV w (Lo w.heap.size) f v → FV w (Lo w.heap.size) g u →
  Calls Tryd.prog 18 #[v, u] w fun e w' => e = .returned (.bool (f.eqB g)) ∧ Below w.heap.size w w'
theorem dep_kid {ks : List Fm.F} {f : Fm.F} (h : f ∈ ks) : f.dep ≤ Fm.depL ks := by
  induction ks with
  | nil => cases h
  | cons a r ih =>
    rw [Fm.depL]
    rcases List.mem_cons.1 h with rfl | h
    · omega
    · have := ih h
      omega
theorem len_cnt (ks : List Fm.F) : ks.length ≤ Fm.cntL ks := by
  induction ks with
  | nil => exact Nat.zero_le _
  | cons a r ih =>
    rw [Fm.cntL, List.length_cons]
    have := Fm.cnt_pos a
    omega
set_option maxRecDepth 10000 in
set_option maxHeartbeats 4000000 in
theorem rsame_step (d : Nat) (ih0 : RSameC d) : RSameC (d + 1) := by
  have ih := Lib.hid ih0
  clear ih0
  intro f g v u w hd hcn hf hg
  cases f with
  | mk k nm lit ks =>
  cases g with
  | mk k' nm' lit' ks' =>
    rw [FV] at hf hg
    obtain ⟨A, c, rfl, hl⟩ := hf
    obtain ⟨A', c', rfl, hl'⟩ := hg
    have hdd : (Fm.F.mk k nm lit ks).dep = 1 + Fm.depL ks := rfl
    have hcc : (Fm.F.mk k nm lit ks).cnt = 1 + Fm.cntL ks := rfl
    have hE : (Fm.F.mk k nm lit ks).eqB (.mk k' nm' lit' ks') = (decide (k = k') && (decide (nm = nm') && (decide (lit = lit') && Fm.eqL ks ks'))) := by rw [Fm.F.eqB]
    have lo1 := lowAlloc w (Obj.cells #[.int .i64 k, .string ⟨nm.toArray⟩, .int .i64 lit, .slice A ks.length c] 24)
    have lo2 := lowAlloc (w.alloc (Obj.cells #[.int .i64 k, .string ⟨nm.toArray⟩, .int .i64 lit, .slice A ks.length c] 24)) (Obj.cells #[.int .i64 k', .string ⟨nm'.toArray⟩, .int .i64 lit', .slice A' ks'.length c'] 24)
    have hb1 := (Blk.new w 24 #[.int .i64 k, .string ⟨nm.toArray⟩, .int .i64 lit, .slice A ks.length c])
    have hb2 := Blk.new (w.alloc (Obj.cells #[.int .i64 k, .string ⟨nm.toArray⟩, .int .i64 lit, .slice A ks.length c] 24)) 24 #[.int .i64 k', .string ⟨nm'.toArray⟩, .int .i64 lit', .slice A' ks'.length c']
    have hb1' := hb1.below lo2 hb1.lt
    have hlo := lo1.trans (lo2.mono lo1.size)
    have hlA := (hl.on lo1).on lo2
    have hlB := (hl'.on lo1).on lo2
    clear hl hl' lo1 lo2 hb1
    go_enter Tryd.func18, Tryd.ntmps18
    go_upto_region 1 with fail
    have hnw : (w.alloc (Obj.cells #[.int .i64 k, .string ⟨nm.toArray⟩, .int .i64 lit, .slice A ks.length c] 24)).heap.size = w.heap.size + 1 := by simp
    rw [hnw] at hb2
    clear hnw
    generalize (w.alloc (Obj.cells #[.int .i64 k, .string ⟨nm.toArray⟩, .int .i64 lit, .slice A ks.length c] 24)).alloc (Obj.cells #[.int .i64 k', .string ⟨nm'.toArray⟩, .int .i64 lit', .slice A' ks'.length c'] 24) = W at *
    have a0 := hb1'.cell 0
    have a1 := hb1'.cell 1
    have a2 := hb1'.cell 2
    have a3 := hb1'.cell 3
    have b0 := hb2.cell 0
    have b1 := hb2.cell 1
    have b2 := hb2.cell 2
    have b3 := hb2.cell 3
    simp only [List.getElem?_toArray, List.getElem?_cons_zero, List.getElem?_cons_succ] at a0 a1 a2 a3 b0 b1 b2 b3
    by_cases h1 : k = k'
    rotate_left
    · have HV : Hid ((Fm.F.mk k nm lit ks).eqB (.mk k' nm' lit' ks') = false) := by unfold Hid; rw [hE, decide_eq_false h1]; rfl
      have q1 : (k != k') = false ∨ (k != k') = true := Or.inr (by simp [h1])
      have q2 : (k != k') = true := by simp [h1]
      have q3 : (k == k') = false := by simp [h1]
      clear h1 q1 hE hlA hlB hb1' hb2
      go_wp2
      go_ret
      exact ⟨by rw [HV.out]; rfl, hlo⟩
    subst h1
    have q2 : (k != k) = false := by simp
    by_cases h2 : nm = nm'
    rotate_left
    · have HV : Hid ((Fm.F.mk k nm lit ks).eqB (.mk k nm' lit' ks') = false) := by unfold Hid; rw [hE, decide_eq_false h2, Bool.false_and, Bool.and_false]
      have q3 : (nm == nm') = false := by simp [h2]
      clear h2 hE hlA hlB hb1' hb2
      go_wp2
      go_ret
      exact ⟨by rw [HV.out]; rfl, hlo⟩
    subst h2
    have qn : (nm == nm) = true := by simp
    by_cases h3 : lit = lit'
    rotate_left
    · have HV : Hid ((Fm.F.mk k nm lit ks).eqB (.mk k nm lit' ks') = false) := by unfold Hid; rw [hE, decide_eq_false h3, Bool.false_and, Bool.and_false, Bool.and_false]
      have q3 : (lit != lit') = true := by simp [h3]
      clear h3 hE hlA hlB hb1' hb2
      go_wp2
      go_ret
      exact ⟨by rw [HV.out]; rfl, hlo⟩
    subst h3
    have q3 : (lit != lit) = false := by simp
    by_cases h4 : ks.length = ks'.length
    rotate_left
    · have HV : Hid ((Fm.F.mk k nm lit ks).eqB (.mk k nm lit ks') = false) := by unfold Hid; rw [hE, Fm.eqL_len h4, Bool.and_false, Bool.and_false, Bool.and_false]
      have q4 : ((ks.length : Int) != (ks'.length : Int)) = true := by
        rw [bne_iff_ne]
        omega
      clear h4 hE hlA hlB hb1' hb2
      go_wp2
      go_ret
      exact ⟨by rw [HV.out]; rfl, hlo⟩
    have q4 : ((ks.length : Int) != (ks'.length : Int)) = false := by
      rw [h4]
      simp
    have HIL := Lib.hid h4
    have HE : Hid ((Fm.F.mk k nm lit ks).eqB (.mk k nm lit ks') = Fm.eqL ks ks') := by unfold Hid; rw [hE, decide_eq_true rfl, decide_eq_true rfl, decide_eq_true rfl]; rfl
    clear h4 hE
    go_wp2
    clear a0 a1 a2 a3 b0 b1 b2 b3 q2 q3 q4 qn
    have HLA := Lib.hid hlA
    have HLB := Lib.hid hlB
    have HB1 := Lib.hid hb1'
    have HB2 := Lib.hid hb2
    clear hlA hlB hb1' hb2
    go_loopw [5] (fun i wr => ∃ j : Nat, j ≤ ks.length ∧ i = .int .i64 (j : Int) ∧ Fm.eqL ks ks' = Fm.eqL (ks.drop j) (ks'.drop j) ∧ Below W.heap.size W wr) (fun i _ => ks.length - (intOf i).toNat)
    case atStart => exact ⟨0, Nat.zero_le _, rfl, rfl, Below.refl _ _⟩
    case round =>
      obtain ⟨j, hj, rfl, hQ, hbw⟩ := hrel
      have HQ := Lib.hid hQ
      clear hQ
      have hBW := hlo.trans (hbw.mono hlo.size)
      have hc1 := HB1.out.below hbw HB1.out.lt
      have hc2 := HB2.out.below hbw HB2.out.lt
      have a3 := hc1.cell 3
      have b3 := hc2.cell 3
      simp only [List.getElem?_toArray, List.getElem?_cons_zero, List.getElem?_cons_succ] at a3 b3
      by_cases hlt : j < ks.length
      · have hlt' : j < ks'.length := by have := HIL.out; omega
        obtain ⟨b, off, A1, c1, hA, hK, g0, g1, g2, g3, hfv⟩ := FL.at ks A 0 (HLA.out.on hbw) j hlt
        obtain ⟨b', off', A2, c2, hA', hK', e0, e1, e2, e3, hfv'⟩ := FL.at ks' A' 0 (HLB.out.on hbw) j hlt'
        subst hA hA'
        have hlk : ks.length ≤ 1000000 := by have := len_cnt ks; omega
        have hix := ixF b off ks.length c j hlk hlt
        have hix' := ixF b' off' ks'.length c' j (by have := HIL.out; omega) hlt'
        rw [Nat.zero_add] at g0 g1 g2 g3 e0 e1 e2 e3
        have HS : Hid (∀ V, Below wr.heap.size wr V → Calls Tryd.prog 18 #[.agg #[.int .i64 ks[j].k, .string ⟨ks[j].nm.toArray⟩, .int .i64 ks[j].lit, .slice A1 ks[j].ks.length c1], .agg #[.int .i64 ks'[j].k, .string ⟨ks'[j].nm.toArray⟩, .int .i64 ks'[j].lit, .slice A2 ks'[j].ks.length c2]] V fun e w' => e = .returned (.bool (ks[j].eqB ks'[j])) ∧ Below V.heap.size V w') := fun V hV =>
          ih.out ks[j] ks'[j] _ _ V (by have := dep_kid (List.getElem_mem hlt); omega) (by have := cnt_kid (List.getElem_mem hlt); omega) (hfv.on hV) (hfv'.on hV)
        have HK : Hid (∀ V, Below wr.heap.size wr V → ((V.cell? ⟨w.heap.size, 3, none⟩ = some (.slice (some ⟨b, off, none⟩) ks.length c) ∧ V.cell? ⟨w.heap.size + 1, 3, none⟩ = some (.slice (some ⟨b', off', none⟩) ks'.length c')) ∧
            (V.cell? ⟨b, off + j * 4, none⟩ = some (.int .i64 ks[j].k) ∧ V.cell? ⟨b, off + j * 4 + 1, none⟩ = some (.string ⟨ks[j].nm.toArray⟩) ∧ V.cell? ⟨b, off + j * 4 + 2, none⟩ = some (.int .i64 ks[j].lit) ∧ V.cell? ⟨b, off + j * 4 + 3, none⟩ = some (.slice A1 ks[j].ks.length c1)) ∧
            (V.cell? ⟨b', off' + j * 4, none⟩ = some (.int .i64 ks'[j].k) ∧ V.cell? ⟨b', off' + j * 4 + 1, none⟩ = some (.string ⟨ks'[j].nm.toArray⟩) ∧ V.cell? ⟨b', off' + j * 4 + 2, none⟩ = some (.int .i64 ks'[j].lit) ∧ V.cell? ⟨b', off' + j * 4 + 3, none⟩ = some (.slice A2 ks'[j].ks.length c2)))) := fun V hV =>
          ⟨⟨(hc1.below hV hc1.lt).cell 3, (hc2.below hV hc2.lt).cell 3⟩, ⟨(hV.cell hK).trans g0, (hV.cell hK).trans g1, (hV.cell hK).trans g2, (hV.cell hK).trans g3⟩, (hV.cell hK').trans e0, (hV.cell hK').trans e1, (hV.cell hK').trans e2, (hV.cell hK').trans e3⟩
        have HD : Hid (Fm.eqL ks ks' = (ks[j].eqB ks'[j] && Fm.eqL (ks.drop (j + 1)) (ks'.drop (j + 1)))) := by
          unfold Hid
          rw [HQ.out, List.drop_eq_getElem_cons hlt, List.drop_eq_getElem_cons hlt', Fm.eqL]
        clear HQ hfv hfv' hc1 hc2 g0 g1 g2 g3 e0 e1 e2 e3
        have lx := Below.refl wr.heap.size wr
        generalize ks[j].eqB ks'[j] = x at *
        go_upto_region 6 with fail
        clear a3 b3
        go_region_held3 (fun V => ((V.cell? ⟨w.heap.size, 3, none⟩ = some (.slice (some ⟨b, off, none⟩) ks.length c) ∧ V.cell? ⟨w.heap.size + 1, 3, none⟩ = some (.slice (some ⟨b', off', none⟩) ks'.length c')) ∧
            (V.cell? ⟨b, off + j * 4, none⟩ = some (.int .i64 ks[j].k) ∧ V.cell? ⟨b, off + j * 4 + 1, none⟩ = some (.string ⟨ks[j].nm.toArray⟩) ∧ V.cell? ⟨b, off + j * 4 + 2, none⟩ = some (.int .i64 ks[j].lit) ∧ V.cell? ⟨b, off + j * 4 + 3, none⟩ = some (.slice A1 ks[j].ks.length c1)) ∧
            (V.cell? ⟨b', off' + j * 4, none⟩ = some (.int .i64 ks'[j].k) ∧ V.cell? ⟨b', off' + j * 4 + 1, none⟩ = some (.string ⟨ks'[j].nm.toArray⟩) ∧ V.cell? ⟨b', off' + j * 4 + 2, none⟩ = some (.int .i64 ks'[j].lit) ∧ V.cell? ⟨b', off' + j * 4 + 3, none⟩ = some (.slice A2 ks'[j].ks.length c2))))
          (first | exact HK.out _ lx | exact HK.out _ lx.drew)
          (first | (go_at_call 18; (with_reducible refine (HS.out _ lx.drew).mono ?_); rintro e w2 ⟨rfl, hb2⟩; replace lx := lx.drew.trans (hb2.mono lx.size))
                 | (go_at_call 18; (with_reducible refine (HS.out _ lx).mono ?_); rintro e w2 ⟨rfl, hb2⟩; replace lx := lx.trans (hb2.mono lx.size)))
        cases x with
        | true =>
          have HD2 : Hid (Fm.eqL ks ks' = Fm.eqL (ks.drop (j + 1)) (ks'.drop (j + 1))) := by unfold Hid; rw [HD.out, Bool.true_and]
          go_wp2
          go_roundw
          case rel => exact ⟨j + 1, by omega, by go_num, HD2.out, hbw.trans (lx.mono hbw.size)⟩
          case measure => simp [intOf]; omega
        | false =>
          have HD2 : Hid (Fm.eqL ks ks' = false) := by unfold Hid; rw [HD.out, Bool.false_and]
          go_wp2
          go_ret
          exact ⟨by rw [HE.out, HD2.out]; rfl, hBW.trans (lx.mono hBW.size)⟩
      · obtain rfl : j = ks.length := by omega
        have HD2 : Hid (Fm.eqL ks ks' = true) := by
          unfold Hid
          have := HIL.out
          rw [HQ.out, List.drop_length, this, List.drop_length]
          rfl
        clear HQ
        go_wp2
        go_ret
        exact ⟨by rw [HE.out, HD2.out]; rfl, hBW⟩
theorem rsame_all : ∀ d, RSameC d
  | 0 => fun f _ _ _ _ hd => by have := Fm.dep_pos f; omega
  | d + 1 => rsame_step d (rsame_all d)
end Go.Proofs.YtlddnejjpekgeaaDoor
/- Tokens: what any right program answers. -/
namespace Go.Proofs.YtlddnejjpekgeaaDoor
open Go.RowKit
attribute [local go_sem] bsv_size

def awakeA : Tk.Bs := [65, 71, 40, 97, 45, 62, 34, 98, 46, 99, 34, 41]
def awakeB : Tk.Bs := [97, 32, 63]
def awakeT : List Tk.Tok := [⟨1, [65, 71], 0⟩, ⟨2, [40], 2⟩, ⟨1, [97], 3⟩, ⟨2, [45, 62], 4⟩, ⟨1, [34, 98, 46, 99, 34], 6⟩, ⟨2, [41], 11⟩, ⟨0, [], 12⟩]
theorem awakeA_lex : Tk.lexA awakeA = (awakeT, 0, 0) := by rfl
theorem awakeB_lex : Tk.lexA awakeB = ([], 40, 2) := by rfl
end Go.Proofs.YtlddnejjpekgeaaDoor
/- The rows of layer 7: what the row's condition says of the signs, what came in, what stays. -/
namespace Go.Proofs.YtlddnejjpekgeaaDoor
section
open Go.ChangeShapes Go.WideShapes Go.ChangeAt Go.RowKit
theorem Tryd.own : ownKnob Tryd.prog.godebug = none := by kernel_rfl

section
variable {H : Type} {enc : TypeId × Value → H} {P : Program}
theorem post_low {f : Func} {s : ChangeSpec} {apart fresh handsOn again : Bool} {W W' : World} {args : Array Value} {v : Value} {ds gs : List (DataW H)} {before pa pv : List MemPlace}
    (hW : DataW.Whole enc P f.params.toList s.vars apart W args.toList ds gs before)
    (hres : ∀ (b : Nat) (sp : Nat → Bool) (hd : Bool), DataW.TrodAll enc P W' b sp hd f.resultTypes.toList (v.resultList f.resultTypes.size) (s.fn H (ds ++ gs)).results [])
    (hargs : ∀ sp : Nat → Bool, (∀ p ∈ before, sp p.block = true) → DataW.TrodAll enc P W' 0 sp true f.params.toList args.toList (s.fn H (ds ++ gs)).args pa)
    (hvars : ∀ sp : Nat → Bool, (∀ p ∈ before, sp p.block = true) → DataW.TrodVars enc P W' sp s.vars (s.fn H (ds ++ gs)).vars pv)
    (hps : before = pa ++ pv) (hb : Below W.heap.size W W')
    (hok : ∀ (j : Nat) (t : TypeId) (r : Value), f.resultTypes[j]? = some t → (v.resultList f.resultTypes.size)[j]? = some r → Value.okWide P W' .any 0 t r) :
    s.post enc P f apart fresh handsOn again W args v W' := by
  have hlt : ∀ p ∈ before, p.block < W.heap.size := fun p hp => hW.lt p hp
  have hold : ∀ p ∈ before, (fun b => decide (b < W.heap.size)) p.block = true := fun p hp => by simpa using hlt p hp
  refine ⟨ds, gs, before, [], pa, pv, hW, hres _ _ _, hargs _ hold, hvars _ hold, World.keptBut_mono (fun p hp => ⟨hp, ?_⟩) (hb.frame (· ∈ before)), fun _ => ?_⟩
  · rw [hps, List.mem_append] at hp
    exact Or.inr hp
  · obtain ⟨_, _, _, _, _, hz, hn⟩ := hW
    refine ⟨hok, _, _, ([] ++ pa) ++ pv, ⟨[] ++ pa, pv, trodAll_append (hargs _ (fun _ _ => rfl)) (hres _ _ _), hvars _ (fun _ _ => rfl), rfl, ?_, ?_⟩, ?_⟩
    · intro b off hp
      have hin : MemPlace.cell b off ∈ before := by rw [hps]; simpa using hp
      rw [hb.frozen (hlt _ hin)]
      exact hz b off hin
    · intro ha
      have := hn ha
      rw [hps] at this
      simpa using this
    · intro p hp _
      rw [hps]
      simpa using hp
end

end
section
open Go.RowKit
/-- The slice at A holds the numbers zs. -/
def Ub (w : World) (B : Nat) (A : Option Addr) (zs : List Int) : Prop :=
  ∀ k (hk : k < zs.length), ∃ b off, A = some ⟨b, off, none⟩ ∧ b < B ∧ w.cell? ⟨b, off + k, none⟩ = some (.int .u8 zs[k]) ∧ 0 ≤ zs[k] ∧ zs[k] ≤ 255
theorem Ub.below {w w' : World} {B C : Nat} {A : Option Addr} {zs : List Int} (h : Ub w B A zs) (hb : Below C w w') (hB : B ≤ C) : Ub w' B A zs := by
  intro k hk
  obtain ⟨b, off, rfl, hlt, h1, h2⟩ := h k hk
  exact ⟨b, off, rfl, hlt, (hb.cell (p := ⟨b, _, none⟩) (Nat.lt_of_lt_of_le hlt hB)).trans h1, h2⟩
theorem Ub.more {w : World} {B C : Nat} {A : Option Addr} {zs : List Int} (h : Ub w B A zs) (hB : B ≤ C) : Ub w C A zs := by
  intro k hk
  obtain ⟨b, off, rfl, hlt, h1, h2⟩ := h k hk
  exact ⟨b, off, rfl, Nat.lt_of_lt_of_le hlt hB, h1, h2⟩
theorem ixU8 (sb off N c r : Nat) (hm : N ≤ 9223372036854775807) (hr : r < N) (w : World) : (Instr.indexAt 29 (.slice (some ⟨sb, off, none⟩) N c) (.int .i64 (r : Int))).run Tryd.prog w = .ok (.pointer (some ⟨sb, off + r, none⟩)) w := by go_simp
end
section
open Go.ChangeMaps Go.ChangeShapes Go.WideShapes Go.ChangeAt Go.RowKit Go.Deep Go.Joins Go.WideElems
theorem Tryd.cellsU8 : Tryd.prog.cellsOf 5 = 1 := by kernel_rfl
section
variable {H : Type} {enc : TypeId × Value → H} {W : World} {base : Nat} {spare : Nat → Bool} {held : Bool}
theorem open_u8s {fuel : Nat} {v1 : Value} {x : DataW H × List MemPlace} (h : DataW.trod enc Tryd.prog W base spare held fuel 29 [v1] = some x) :
    ∃ (A : Option Addr) (c : Nat) (zs : List Int), v1 = .slice A zs.length c ∧ Ub W W.heap.size A zs ∧ zs.length ≤ maxLen := by
  rcases open_slice Tryd.underlying29 h with ⟨hcs, _⟩ | ⟨a, len, cap, m, n, D, Pl, hcs, hb, hl, hm, hmm, _, hx⟩
  · refine ⟨none, 0, [], ?_, fun k hk => by simp at hk, Nat.zero_le _⟩
    simpa using hcs
  · have hlm : len ≤ m := by rw [hmm]; split <;> omega
    have each : ∀ i, i < len → ∃ q : Int, W.cell? (a.add (i * 1)) = some (.int .u8 q) ∧ (Lit.int .u8 q).wf = true := by
      intro i hi
      obtain ⟨cs', h1, h2⟩ := hx i (by omega)
      rw [Tryd.cellsU8] at h1
      obtain ⟨_, hlen, hcell⟩ := World.cells?_some h1
      obtain ⟨u, hu, _, wu⟩ := DataW.trod_int Tryd.underlying5 h2
      subst hu
      have e0 := hcell 0 (by omega)
      exact ⟨u, by simpa [Addr.add] using e0, wu⟩
    obtain ⟨q, hq⟩ := choose_lt each
    refine ⟨some a, cap, (List.range len).map q, ?_, fun k hk => ?_, by simp; omega⟩
    · simpa using hcs
    · have hk' : k < len := by simpa using hk
      obtain ⟨e1, w1⟩ := hq k hk'
      obtain ⟨b, off, spot⟩ := a
      have hspot : spot = none := by
        have := World.cell?_spot (hq 0 (by omega)).1
        simpa [Addr.add] using this
      subst hspot
      rw [add_plain, Nat.mul_one] at e1
      have bd := bounds_u8 w1
      refine ⟨b, off, rfl, ?_, ?_, ?_⟩
      · exact World.block_lt_of_cell? W ⟨b, off + k, none⟩ e1
      · simpa using e1
      · simpa using bd
end

end
section
open Go.ChangeMaps Go.ChangeShapes Go.WideShapes Go.ChangeAt Go.RowKit
def laid2 : List (String × DataW Unit) := [("parterre/token.signs", Rows.laid_parterre_token_signs)]
theorem gSigns : Tryd.prog.globalNamed "parterre/token.signs" = some 0 := by kernel_rfl
theorem tSigns : (Tryd.prog.globals[0]?).map (·.type) = some 101 := by kernel_rfl
theorem Tryd.laid2 : laidOutB Tryd.prog = true := by kernel_rfl
theorem cStr : Tryd.prog.cellsOf 9 = 1 := by kernel_rfl
theorem door_met (os : Os) (args : Array Value) : laidMetH Tryd.prog laid2 ((World.doorLaid Tryd.prog 400 os).forCall (fun _ _ => 0) ⟨#[], args, []⟩).memory :=
  laidMetH_of_parts3 (fuel := 8) (laidMet_of_run' 8 (by kernel_rfl) (by kernel_rfl)) (by kernel_rfl) (by kernel_rfl)
/-- What the walks ask of the world: the signs lie there. -/
structure Tabs (W : World) : Prop where
  sig : Sig W
  lt : 0 < W.heap.size
theorem Tabs.below {W W' : World} (h : Tabs W) (hb : Below W.heap.size W W') : Tabs W' := ⟨h.sig.below hb h.lt, Nat.lt_of_lt_of_le h.lt hb.size⟩
theorem of_laid {W : World} (h : laidMetH Tryd.prog laid2 W) : Tabs W := by
  rw [MakeChecks.laidMetH_plain _ _ _ (by kernel_rfl)] at h
  obtain ⟨ps, ⟨g0, t0, cs0, f0, p0, q0, hg0, ht0, hv0, hd0, _⟩, _, _⟩ := h
  obtain rfl := Option.some.inj (gSigns.symm.trans hg0)
  obtain rfl := Option.some.inj (tSigns.symm.trans ht0)
  have hcell : ∀ i, W.cell? ⟨0, i, none⟩ = cs0.toList[i]? := fun i => by
    have := World.var?_cell hg0 hv0 i
    rw [Array.getElem?_toList]
    simpa using this
  obtain ⟨xs, m1, rfl, hx1, hlen, hn3, hel⟩ := DataW.trod_array Tryd.underlying101 hd0
  rw [cStr] at hel
  simp only [Prod.mk.injEq, Rows.laid_parterre_token_signs, DataW.agg.injEq] at hx1
  match xs, hn3, hx1, hel with
  | [x0, x1, x2, x3, x4, x5, x6, x7, x8], _, hx1, hel =>
    simp only [List.map_cons, List.map_nil, List.cons.injEq] at hx1
    obtain ⟨⟨e0, e1, e2, e3, e4, e5, e6, e7, e8, _⟩, _⟩ := hx1
    have one : ∀ (i : Nat) (x : DataW Unit × List MemPlace) (l : List UInt8), ([x0, x1, x2, x3, x4, x5, x6, x7, x8] : List (DataW Unit × List MemPlace))[i]? = some x → i < 9 → DataW.lit (.string l) = x.1 → W.cell? ⟨0, i, none⟩ = some (.string (bsv l)) := by
      intro i x l hi h9 he
      have h1 := (hel i h9).trans hi
      obtain ⟨s, hc, hs, _⟩ := DataW.trod_string Tryd.underlying9 h1
      have h2 : cs0.toList[i]? = some (.string s) := by
        have := congrArg (·[0]?) hc
        simpa [List.getElem?_take, List.getElem?_drop] using this
      rw [hs] at he
      have h3 : l = s.data.toList := by simpa using he
      rw [hcell, h2, h3]
      rfl
    have hs : Sig W := by
      intro i hi
      have : i = 0 ∨ i = 1 ∨ i = 2 ∨ i = 3 ∨ i = 4 ∨ i = 5 ∨ i = 6 ∨ i = 7 ∨ i = 8 := by omega
      rcases this with rfl | rfl | rfl | rfl | rfl | rfl | rfl | rfl | rfl
      · exact one 0 x0 _ rfl hi e0
      · exact one 1 x1 _ rfl hi e1
      · exact one 2 x2 _ rfl hi e2
      · exact one 3 x3 _ rfl hi e3
      · exact one 4 x4 _ rfl hi e4
      · exact one 5 x5 _ rfl hi e5
      · exact one 6 x6 _ rfl hi e6
      · exact one 7 x7 _ rfl hi e7
      · exact one 8 x8 _ rfl hi e8
    exact ⟨hs, World.block_lt_of_cell? W ⟨0, 0, none⟩ (hs 0 (by omega))⟩
end
end Go.Proofs.YtlddnejjpekgeaaDoor
/- The law's comparison of both readings; TokenAny's walk. -/
namespace Go.Proofs.YtlddnejjpekgeaaDoor
open Go.RowKit
attribute [local go_sem] bsv_size

end Go.Proofs.YtlddnejjpekgeaaDoor
