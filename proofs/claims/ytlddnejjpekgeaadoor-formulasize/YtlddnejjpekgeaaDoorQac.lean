/- Tokens: the iterator over a text's tokens. -/
import Derived.Test.YtlddnejjpekgeaaDoorQab
set_option linter.unusedSimpArgs false
set_option linter.unusedVariables false
namespace Go.Proofs.YtlddnejjpekgeaaDoor
open Go.RowKit Go.Shelf

/-- A token as the program's value; what the iterator hands over. -/
def tokV (t : Tk.Tok) : Value := .agg #[.int .i64 (t.k : Int), .string (bsv t.t), .int .i64 (t.a : Int)]
def itemV (x : Tk.Tok × Nat) : Array Value := #[tokV x.1, .int .i64 (x.2 : Int)]
theorem sl2_bsv (s : Tk.Bs) (a n : Nat) (h : a + n ≤ s.length) (w : World) : (Instr.slice 9 (.string (bsv s)) (some (.int .i64 (a : Int))) (some (.int .i64 ((a : Int) + (n : Int)))) none).run Tryd.prog w = .ok (.string (bsv ((s.drop a).take n))) w := by
  have e := bsv_extract s a (a + n)
  rw [Nat.add_sub_cancel_left] at e
  rw [← e]
  have h1 : ((a : Int) + (n : Int)) ≤ ((bsv s).size : Int) := by rw [bsv_size]; omega
  have h2 : ((a : Int) + (n : Int)).toNat = a + n := by omega
  go_simp
  rw [if_pos (by omega), if_pos (by omega)]
theorem Sig.keep {K : Nat → Prop} {W W' : World} (h : Sig W) (hk : KS K W W') (h0 : K 0) : Sig W' := fun i hi => (hk.cell h0 i).trans (h i hi)
attribute [local go_sem] Oper.semAt_some bsv_size
set_option maxHeartbeats 1000000 in
theorem tokens_any (s : Tk.Bs) (w : World) : Calls Tryd.prog 39 #[.string (bsv s)] w fun e w' => e = .returned (.func (.func 48) #[] #[.pointer (some ⟨w.heap.size, 0, none⟩)]) ∧ w' = w.alloc (.cells #[.string (bsv s)] 9) := by
  go_enter Tryd.func39, Tryd.ntmps39
  go_wp2
  go_ret
  exact ⟨rfl, rfl⟩
set_option maxRecDepth 100000 in
set_option maxHeartbeats 4000000 in
theorem tokens1_in (m l Bs : Nat) (s : Tk.Bs) (K : Nat → Prop) (hm : 1 ≤ m) (hs : s.length ≤ 20000) (hK1 : K Bs) (hK2 : K 0) (J Jx : List (Tk.Tok × Nat) → World → Prop)
    (hY : ∀ pre (x : Tk.Tok × Nat) W, J pre W → pre.length < s.length + 2 → YieldAt Fence.wide (m - 1) Tryd.prog l (itemV x) W fun e W' =>
      (e = .returned (.bool true) ∧ J (pre ++ [x]) W' ∧ KS K W W') ∨ (e = .returned (.bool false) ∧ Jx (pre ++ [x]) W'))
    (W : World) (hB : Blk W Bs 9 #[.string (bsv s)]) (hg : Sig W) (h0 : J [] W) :
    CallsIn Fence.wide m Tryd.prog 48 #[.func (.yield l) #[] #[], .pointer (some ⟨Bs, 0, none⟩)] W fun e W' => (∃ v, e = .returned v) ∧
      ((∃ ys, ys = Tk.itemsS s ∧ J ys W') ∨ (∃ pre, (∃ suf, pre ++ suf = Tk.itemsS s) ∧ Jx pre W')) := by
  have c0 := hB.cell 0
  simp only [List.getElem?_toArray, List.getElem?_cons_zero] at c0
  refine callsIn_of_wp Tryd.func48 rfl trivial ?_ rfl
  simp only [Tryd.ntmps48, List.size_toArray, List.length_cons, List.length_nil, Nat.reduceAdd, Nat.reduceSub, Array.replicate_succ, Array.replicate_zero, List.push_toArray, List.append_toArray, List.nil_append, List.cons_append]
  gi_wp2
  refine ⟨trivial, (callsIn_wide.2 (behind_any s 0 W (by omega) (Nat.zero_le _))).mono ?_⟩
  rintro e w1 ⟨rfl, rfl⟩
  gi_wp2
  gi_loopw [3] (fun i wr => ∃ (a : Nat) (ts : List Tk.Tok), i = .int .i64 (a : Int) ∧ Tk.Mid s ts a ∧ J (ts.map (fun t => (t, 0))) wr ∧ KS K W wr) (fun i _ => s.length - (intOf i).toNat)
  case atStart => exact ⟨Tk.skipS s 0, [], rfl, Tk.mid_start s, h0, KS.refl _ _⟩
  case round =>
    obtain ⟨a, ts, rfl, hMid, hJ, hks⟩ := hrel
    have hg1 := hg.keep hks hK2
    have c1 := (hks.cell hK1 0).trans c0
    have hal := hMid.1
    have HLEN : Hid ((ts.map (fun t => (t, 0))).length < s.length + 2) := by
      unfold Hid
      have := Tk.mid_len hMid
      rw [List.length_map]
      omega
    have HM := Lib.hid hMid
    clear hMid c0 hg
    by_cases hlt : a < s.length
    · have hsl := sl_bsv s a hal
      have HF := Lib.hid (first_any (s.drop a) wr (by rw [List.length_drop]; omega) hg1)
      have HR := Lib.hid (Tk.first_room (s := s) hal)
      have HT := Lib.hid (fun h => Tk.mid_tok HM.out hlt h)
      have HB := Lib.hid (fun h => Tk.items_bad HM.out hlt h)
      unfold firstV at HF
      generalize hu : s.drop a = u at *
      generalize Tk.firstS u = f at *
      obtain ⟨k, n⟩ := f
      have hsl2 : a + n ≤ s.length → ∀ w, _ := fun h => sl2_bsv s a n h
      rw [hu] at hsl2
      clear hu
      simp only at HF HR HT HB
      have hr := HR.out
      replace hsl2 := hsl2 hr
      gi_wp2
      refine ⟨trivial, (callsIn_wide.2 HF.out).mono ?_⟩
      rintro e w1 ⟨rfl, rfl⟩
      clear HF
      by_cases hn : n = 0
      · subst hn
        have HB2 := Lib.hid (HB.out rfl)
        obtain ⟨fn, tmps, assign, body, hy, hR⟩ := hY _ (⟨0, [], a⟩, 40) wr hJ HLEN.out
        dsimp only [itemV, tokV] at hy
        rw [show ((40 : Nat) : Int) = 40 from rfl, show ((0 : Nat) : Int) = 0 from rfl] at hy
        rw [show bsv [] = (⟨#[]⟩ : ByteArray) from rfl] at hy
        clear HT HB hsl hsl2 HR hr
        gi_wp2
        refine hR.mono ?_
        rintro e W3 (⟨rfl, hJ3, hk3⟩ | ⟨rfl, hJx3⟩)
        · gi_wp2
          refine bodyPost_ret (results_none rfl _ _ _) rfl ?_
          exact ⟨⟨_, rfl⟩, .inl ⟨_, HB2.out.symm, hJ3⟩⟩
        · gi_wp2
          refine bodyPost_ret (results_none rfl _ _ _) rfl ?_
          exact ⟨⟨_, rfl⟩, .inr ⟨_, ⟨[], by rw [HB2.out, List.append_nil]⟩, hJx3⟩⟩
      · have d1 : ((n : Int) == 0) = false := by rw [beq_eq_false_iff_ne]; omega
        have HT2 := Lib.hid (HT.out hn)
        obtain ⟨fn, tmps, assign, body, hy, hR⟩ := hY _ (⟨k, u.take n, a⟩, 0) wr hJ HLEN.out
        dsimp only [itemV, tokV] at hy
        rw [show ((0 : Nat) : Int) = 0 from rfl] at hy
        clear HT HB HR
        gi_wp2
        refine hR.mono ?_
        rintro e W3 (⟨rfl, hJ3, hk3⟩ | ⟨rfl, hJx3⟩)
        · have c3 := (hk3.cell hK1 0).trans c1
          have HBB : Hid (Calls Tryd.prog 49 #[.string (bsv s), .int .i64 ((a : Int) + (n : Int))] W3 fun e w' => e = .returned (.int .i64 (Tk.skipS s (a + n) : Nat)) ∧ W3 = w') := by
            have := behind_any s (a + n) W3 (by omega) hr
            rwa [show ((a + n : Nat) : Int) = (a : Int) + (n : Int) by omega] at this
          gi_wp2
          refine ⟨trivial, (callsIn_wide.2 HBB.out).mono ?_⟩
          rintro e w1 ⟨rfl, rfl⟩
          gi_wp2
          go_roundw
          case rel => exact ⟨_, _, rfl, HT2.out, by rw [List.map_append]; exact hJ3, hks.trans hk3⟩
          case measure =>
            have := Tk.skip_ge s (a + n)
            simp [intOf]
            omega
        · gi_wp2
          refine bodyPost_ret (results_none rfl _ _ _) rfl ?_
          refine ⟨⟨_, rfl⟩, .inr ⟨_, ?_, hJx3⟩⟩
          obtain ⟨suf, hsuf⟩ := Tk.mid_items HT2.out
          rw [List.map_append] at hsuf
          exact ⟨suf, hsuf⟩
    · have HE := Lib.hid (Tk.items_end HM.out (by omega))
      obtain ⟨fn, tmps, assign, body, hy, hR⟩ := hY _ (⟨0, [], s.length⟩, 0) wr hJ HLEN.out
      dsimp only [itemV, tokV] at hy
      rw [show ((0 : Nat) : Int) = 0 from rfl] at hy
      rw [show bsv [] = (⟨#[]⟩ : ByteArray) from rfl] at hy
      gi_wp2
      refine hR.mono ?_
      rintro e W3 (⟨rfl, hJ3, hk3⟩ | ⟨rfl, hJx3⟩)
      · gi_wp2
        go_end0
        exact ⟨⟨_, rfl⟩, .inl ⟨_, HE.out.symm, hJ3⟩⟩
      · gi_wp2
        go_end0
        exact ⟨⟨_, rfl⟩, .inr ⟨_, ⟨[], by rw [HE.out, List.append_nil]⟩, hJx3⟩⟩
end Go.Proofs.YtlddnejjpekgeaaDoor
