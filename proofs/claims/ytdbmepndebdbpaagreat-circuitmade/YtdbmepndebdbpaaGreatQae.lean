/- Made: a graph by numbers. -/
import Derived.Test.YtdbmepndebdbpaaGreatQad
import Derived.Deep.Slices
import Derived.Lib.SmallJoins
namespace Go.Proofs.YtdbmepndebdbpaaGreat
open Go.RowKit

/-- The slice at A holds the numbers zs. -/
def Us (w : World) (B : Nat) (A : Option Addr) (zs : List Int) : Prop :=
  ∀ k (hk : k < zs.length), ∃ b off, A = some ⟨b, off, none⟩ ∧ b < B ∧ w.cell? ⟨b, off + k, none⟩ = some (.int .u16 zs[k]) ∧ 0 ≤ zs[k] ∧ zs[k] ≤ 65535
theorem Us.below {w w' : World} {B C : Nat} {A : Option Addr} {zs : List Int} (h : Us w B A zs) (hb : Below C w w') (hB : B ≤ C) : Us w' B A zs := by
  intro k hk
  obtain ⟨b, off, rfl, hlt, h1, h2⟩ := h k hk
  exact ⟨b, off, rfl, hlt, (hb.cell (p := ⟨b, _, none⟩) (Nat.lt_of_lt_of_le hlt hB)).trans h1, h2⟩
theorem ixU (sb off N c r : Nat) (_hm : N ≤ 9223372036854775807) (hr : r < N) (w : World) : (Instr.indexAt 22 (.slice (some ⟨sb, off, none⟩) N c) (.int .i64 (r : Int))).run Tryz.prog w = .ok (.pointer (some ⟨sb, off + r, none⟩)) w := by go_simp

/-- A graph of n inputs by numbers: what is known of it. -/
structure Good (n : Int) (gs : List (Int × Int)) (k : Nat) (last : Int) : Prop where
  right : Gm.rightB n gs = true
  few : gs.length ≤ k
  wf : Wf gs
  lit : Gm.litB n gs.length last = true
theorem Good.start {n : Int} (h0 : 0 ≤ n) (h1 : n ≤ 6) : Good n [] 0 1 := by
  refine ⟨?_, by simp, wf_nil, ?_⟩
  · simp [Gm.rightB, Gm.fitB, Gm.ordB, Gm.nodB]; omega
  · simp [Gm.litB]; omega
/-- What Made keeps in its boxes. -/
structure MInv (w wr : World) (n : Int) (A : Option Addr) (c : Nat) (gs : List (Int × Int)) : Prop where
  low : Below w.heap.size w wr
  d0 : wr.cell? ⟨w.heap.size + 1, 0, none⟩ = some (.int .i64 n)
  d1 : wr.cell? ⟨w.heap.size + 1, 1, none⟩ = some (.slice A gs.length c)
  e0 : wr.cell? ⟨w.heap.size, 0, none⟩ = some (.int .i64 0)
  e1 : wr.cell? ⟨w.heap.size, 1, none⟩ = some (.slice none 0 0)
  f0 : wr.frozen? ⟨w.heap.size, 0, none⟩ = false
  f1 : wr.frozen? ⟨w.heap.size, 1, none⟩ = false
  g0 : wr.frozen? ⟨w.heap.size + 1, 0, none⟩ = false
  g1 : wr.frozen? ⟨w.heap.size + 1, 1, none⟩ = false
  sz : w.heap.size + 1 < wr.heap.size
  gr : Gr wr wr.heap.size A gs
  sep : Sep 0 (w.heap.size + 2) A
theorem MInv.below {w wr w' : World} {n : Int} {A : Option Addr} {c : Nat} {gs : List (Int × Int)} (h : MInv w wr n A c gs) (hb : Below wr.heap.size wr w') : MInv w w' n A c gs := by
  have hs := h.sz
  have hc : ∀ b i, b < w.heap.size + 2 → w'.cell? ⟨b, i, none⟩ = wr.cell? ⟨b, i, none⟩ := fun b i hlt => hb.cell (p := ⟨b, i, none⟩) (by simp; omega)
  have hf : ∀ b i, b < w.heap.size + 2 → w'.frozen? ⟨b, i, none⟩ = wr.frozen? ⟨b, i, none⟩ := fun b i hlt => hb.frozen (p := ⟨b, i, none⟩) (by simp; omega)
  exact ⟨h.low.trans (hb.mono h.low.size), (hc _ _ (by omega)).trans h.d0, (hc _ _ (by omega)).trans h.d1, (hc _ _ (by omega)).trans h.e0, (hc _ _ (by omega)).trans h.e1, (hf _ _ (by omega)).trans h.f0, (hf _ _ (by omega)).trans h.f1, (hf _ _ (by omega)).trans h.g0, (hf _ _ (by omega)).trans h.g1,
    Nat.lt_of_lt_of_le hs hb.size, (h.gr.below hb (Nat.le_refl _)).more hb.size, h.sep⟩
theorem MInv.drewN {w wr : World} {n : Int} {A : Option Addr} {c : Nat} {gs : List (Int × Int)} (h : MInv w wr n A c gs) (q : Nat) : MInv w (wr.drewN q) n A c gs :=
  ⟨below_drewN h.low q, h.d0, h.d1, h.e0, h.e1, h.f0, h.f1, h.g0, h.g1, h.sz, h.gr, h.sep⟩
theorem MInv.put {w wr : World} {n : Int} {A A' : Option Addr} {c c' : Nat} {gs gs' : List (Int × Int)} (h : MInv w wr n A c gs) (hG : Gr wr wr.heap.size A' gs') (hs : Sep 0 (w.heap.size + 2) A') :
    MInv w ((wr.setCell ⟨w.heap.size + 1, 0, none⟩ (.int .i64 n)).setCell ⟨w.heap.size + 1, 1, none⟩ (.slice A' gs'.length c')) n A' c' gs' := by
  have hne : ∀ ad, A' = some ad → ad.block ≠ w.heap.size + 1 := hs.ne (Nat.zero_le _) (by omega)
  refine ⟨(h.low.setCell (by simp) _).setCell (by simp) _, ?_, ?_, keep2 h.e0 (by omega), keep2 h.e1 (by omega), by simpa using h.f0, by simpa using h.f1, by simpa using h.g0, by simpa using h.g1, by simpa using h.sz, ?_, hs⟩
  · exact (World.cell?_setCell_other _ _ _ _ (by simp)).trans (World.cell?_setCell_same _ _ _ h.d0)
  · exact World.cell?_setCell_same _ _ _ ((World.cell?_setCell_other _ _ _ _ (by simp)).trans h.d1)
  · have := (hG.set (p := ⟨w.heap.size + 1, 0, none⟩) hne (.int .i64 n)).set (p := ⟨w.heap.size + 1, 1, none⟩) hne (.slice A' gs'.length c')
    simpa using this
theorem MInv.drew {w wr : World} {n : Int} {A : Option Addr} {c : Nat} {gs : List (Int × Int)} (h : MInv w wr n A c gs) : MInv w wr.drew n A c gs :=
  ⟨h.low.drew, h.d0, h.d1, h.e0, h.e1, h.f0, h.f1, h.g0, h.g1, h.sz, h.gr, h.sep⟩
theorem xor_zero (x : Int) (h0 : 0 ≤ x) (h1 : x ≤ 9223372036854775807) : bits .xor .i64 x 0 = x := by
  obtain ⟨m, rfl⟩ := Int.eq_ofNat_of_zero_le h0
  have := Gm.i64_xor_nat m 0 (by omega) (by omega)
  simpa using this
theorem xor_lit {n : Int} {l : Nat} {x t : Int} (h : Gm.litB n l x = true) (hx : x ≤ 9223372036854775807) (ht : t = 0 ∨ t = 1) : Gm.litB n l (bits .xor .i64 x t) = true := by
  have h0 := (lit_facts h).1
  rcases ht with rfl | rfl
  · rw [xor_zero x h0 hx]; exact h
  · rw [Gm.bits_neg x h0 hx]; exact neg_lit h
theorem made_close {w wr : World} {n : Int} {A : Option Addr} {c : Nat} {gs : List (Int × Int)} (h : MInv w wr n A c gs) :
    Below w.heap.size w ((wr.setCell ⟨w.heap.size, 0, none⟩ (.int .i64 n)).setCell ⟨w.heap.size, 1, none⟩ (.slice A gs.length c)) ∧
    ((wr.setCell ⟨w.heap.size, 0, none⟩ (.int .i64 n)).setCell ⟨w.heap.size, 1, none⟩ (.slice A gs.length c)).cell? ⟨w.heap.size, 0, none⟩ = some (.int .i64 n) ∧
    ((wr.setCell ⟨w.heap.size, 0, none⟩ (.int .i64 n)).setCell ⟨w.heap.size, 1, none⟩ (.slice A gs.length c)).cell? ⟨w.heap.size, 1, none⟩ = some (.slice A gs.length c) ∧
    Gr ((wr.setCell ⟨w.heap.size, 0, none⟩ (.int .i64 n)).setCell ⟨w.heap.size, 1, none⟩ (.slice A gs.length c)) ((wr.setCell ⟨w.heap.size, 0, none⟩ (.int .i64 n)).setCell ⟨w.heap.size, 1, none⟩ (.slice A gs.length c)).heap.size A gs := by
  have hne : ∀ ad, A = some ad → ad.block ≠ w.heap.size := h.sep.ne (Nat.zero_le _) (by omega)
  refine ⟨(h.low.setCell (by simp) _).setCell (by simp) _, ?_, ?_, ?_⟩
  · exact (World.cell?_setCell_other _ _ _ _ (by simp)).trans (World.cell?_setCell_same _ _ _ h.e0)
  · exact World.cell?_setCell_same _ _ _ ((World.cell?_setCell_other _ _ _ _ (by simp)).trans h.e1)
  · have := (h.gr.set (p := ⟨w.heap.size, 0, none⟩) hne (.int .i64 n)).set (p := ⟨w.heap.size, 1, none⟩) hne (.slice A gs.length c)
    simpa using this
/-- What Made hands back. -/
def MadePost (n : Int) (w : World) (e : Ending) (w' : World) : Prop :=
  ∃ (A : Option Addr) (c : Nat) (gs : List (Int × Int)) (last : Int), e = .returned (.tuple #[.agg #[.int .i64 n, .slice A gs.length c], .int .i64 last]) ∧ Gr w' w'.heap.size A gs ∧ Good n gs 40 last ∧ Below w.heap.size w w'
/-- The loop's relation. -/
def MRel (w : World) (n : Int) (len : Nat) (last i : Value) (wr : World) : Prop :=
  ∃ (k : Nat) (A : Option Addr) (c : Nat) (gs : List (Int × Int)) (l : Int), k ≤ len ∧ k ≤ 40 ∧ i = .int .i64 (k : Int) ∧ last = .int .i64 l ∧ Good n gs k l ∧ MInv w wr n A c gs

set_option maxRecDepth 100000 in
set_option maxHeartbeats 4000000 in
theorem made_any (n : Int) (A0 : Option Addr) (c0 : Nat) (zs : List Int) (w : World) (h0 : 0 ≤ n) (h6 : n ≤ 6) (hm : zs.length ≤ maxLen) (hU : Us w w.heap.size A0 zs) :
    Calls Tryz.prog 8 #[.int .i64 n, .slice A0 zs.length c0] w (MadePost n w) := by
  unfold maxLen at hm
  have hst : MInv w ((w.alloc (Obj.cells #[Value.int .i64 0, .slice none 0 0] 41)).alloc (Obj.cells #[.int .i64 n, .slice none 0 0] 41)) n none 0 [] :=
    ⟨((Below.refl w.heap.size w).alloc (Nat.le_refl _) _).alloc (by simp) _, by go_simp, by go_simp, by go_simp, by go_simp, by go_simp, by go_simp, by go_simp, by go_simp, by simp, gr_nil, Sep.none_⟩
  have HST := Lib.hid hst
  clear hst
  go_enter Tryz.func8, Tryz.ntmps8
  go_wp2
  go_loopw [7, 8] (fun last i wr => MRel w n zs.length last i wr) (fun _ i _ => 40 - (intOf i).toNat)
  case atStart => exact ⟨0, none, 0, [], 1, Nat.zero_le _, by omega, rfl, rfl, Good.start h0 h6, HST.out⟩
  case round =>
    obtain ⟨k, A, c, gs, l, hk, hk4, rfl, rfl, hgood, hinv⟩ := hrel
    have d0 := hinv.d0
    have d1 := hinv.d1
    by_cases hlt : k < zs.length
    · by_cases hlt4 : k < 40
      · have hgl := hgood.few
        obtain ⟨b, off, hA, hbB, z1, z2, z3⟩ := (hU.below hinv.low (Nat.le_refl _)) k hlt
        subst hA
        generalize zs[k] = z at *
        go_wp2_with fail
        refine (refVars_any n A gs.length c wr h0 (by omega) (by omega)).mono ?_
        rintro e w1 ⟨rfl, hb1⟩
        have hi1 := hinv.below hb1
        have z1' := (hb1.cell (p := ⟨b, off + k, none⟩) (Nat.lt_of_lt_of_le hbB hinv.low.size)).trans z1
        have hix := ixU b off zs.length c0 k (by omega) hlt
        go_upto_region 7 with fail
        generalize hM : 2 * (n + 1 + (gs.length : Int)) = M at *
        have hM0 : 0 < M := by omega
        have hM1 : M ≤ 94 := by omega
        have hM2 : ¬ M = 0 := by omega
        have HM := Lib.hid hM
        clear hM z1 d0 d1
        have hd1 := Int.emod_nonneg z hM2
        have hd2 := Int.emod_lt_of_pos z hM0
        have hq0 : 0 ≤ z / M := Int.ediv_nonneg z2 (by omega)
        have hd3 := Int.emod_nonneg (z / M) hM2
        have hd4 := Int.emod_lt_of_pos (z / M) hM0
        have hgood' := hgood
        obtain ⟨hr, hfew, hwf, hlit⟩ := hgood'
        have hx : Gm.litB n gs.length (z % M) = true := lit_mk h0 (by omega) hd1 (by have := HM.out; omega)
        have hy : Gm.litB n gs.length (z / M % M) = true := lit_mk h0 (by omega) hd3 (by have := HM.out; omega)
        have hag := and_good hr hx hy (by omega)
        have haf := and_facts n gs (z % M) (z / M % M) hwf
        have HAND := Lib.hid (fun q => refAnd_any n A c gs (z % M) (z / M % M) (w1.drewN q) w1.heap.size (by omega) hi1.gr (Nat.le_refl _) hwf (by omega) (by omega))
        go_quiet (fail)
        generalize Gm.andS n gs (z % M) (z / M % M) = r at *
        obtain ⟨⟨n', gs'⟩, l', er⟩ := r
        obtain ⟨he, hi, hr', hlit', hgrow, _⟩ := hag
        simp only at he hi hr' hlit' hgrow
        subst he hi
        have hwf' : Wf gs' := haf.wf
        have d0 := hi1.d0
        have d1 := hi1.d1
        go_wp2_with fail
        refine (HAND.out nq).mono ?_
        rintro e w2 ⟨A', c', rfl, hG2, hsep2, hb2⟩
        have hi2 := (hi1.drewN nq).below hb2
        have hi3 := hi2.below ((Below.refl w2.heap.size w2).alloc (Nat.le_refl _) (Obj.cells #[.int .i64 n', .slice A' gs'.length c'] 41))
        have hk3 := Blk.new w2 41 #[.int .i64 n', .slice A' gs'.length c']
        have hG3 := (hG2.below ((Below.refl w2.heap.size w2).alloc (Nat.le_refl _) (Obj.cells #[.int .i64 n', .slice A' gs'.length c'] 41)) (Nat.le_refl _)).more (by simp : w2.heap.size ≤ (w2.alloc (Obj.cells #[.int .i64 n', .slice A' gs'.length c'] 41)).heap.size)
        have hsp : Sep 0 (w.heap.size + 2) A' := by
          rcases hsep2 with ⟨rfl, _⟩ | h
          · exact hinv.sep
          · exact h.mono (Nat.le_refl _) hi1.sz
        have z1'' : (w2.alloc (Obj.cells #[.int .i64 n', .slice A' gs'.length c'] 41)).cell? ⟨b, off + k, none⟩ = some (.int .u16 z) :=
          (World.cell?_alloc_lt w2 _ ⟨b, off + k, none⟩ (Nat.lt_of_lt_of_le (Nat.lt_of_lt_of_le hbB hi1.low.size) hb2.size)).trans ((hb2.cell (p := ⟨b, off + k, none⟩) (Nat.lt_of_lt_of_le hbB hi1.low.size)).trans z1')
        have q0 := hk3.cell 0
        have q1 := hk3.cell 1
        simp only [List.getElem?_toArray, List.getElem?_cons_zero, List.getElem?_cons_succ] at q0 q1
        have hlt3 : w.heap.size + 1 < w2.heap.size := hi2.sz
        clear d0 d1 z1'
        go_upto_region 10 with fail
        generalize w2.alloc (Obj.cells #[.int .i64 n', .slice A' gs'.length c'] 41) = V at *
        have d0 := hi3.d0
        have d1 := hi3.d1
        have g0 := hi3.g0
        have g1 := hi3.g1
        go_region
        go_wp2
        have hl4 : l' ≤ 4000 := haf.lit1
        have hgd : Good n' gs' (k + 1) (bits .xor .i64 l' (z / 7 % 2)) := ⟨hr', by omega, hwf', xor_lit hlit' (by omega) (by omega)⟩
        have hfin : MInv w ((V.setCell ⟨w.heap.size + 1, 0, none⟩ (.int .i64 n')).setCell ⟨w.heap.size + 1, 1, none⟩ (.slice A' gs'.length c')).drew n' A' c' gs' := (hi3.put hG3 hsp).drew
        exact ⟨⟨k + 1, A', c', gs', _, by omega, by omega, by go_num, rfl, hgd, hfin⟩, by simp [intOf]; omega⟩
      · have hd : decide ((k : Int) < 40) = false := by simp; omega
        have e0 := hinv.e0
        have e1 := hinv.e1
        have f0 := hinv.f0
        have f1 := hinv.f1
        go_wp2
        obtain ⟨hlo, r0, r1, hGf⟩ := made_close hinv
        exact bodyPost_ret (v := .tuple #[.agg #[.int .i64 n, .slice A gs.length c], .int .i64 l]) (by simp [results, Tryz.results8, go_sem, r0, r1]) rfl ⟨A, c, gs, l, rfl, hGf, ⟨hgood.right, Nat.le_trans hgood.few hk4, hgood.wf, hgood.lit⟩, hlo⟩
    · have hd : decide ((k : Int) < (zs.length : Int)) = false := by simp; omega
      have e0 := hinv.e0
      have e1 := hinv.e1
      have f0 := hinv.f0
      have f1 := hinv.f1
      go_wp2
      obtain ⟨hlo, r0, r1, hGf⟩ := made_close hinv
      exact bodyPost_ret (v := .tuple #[.agg #[.int .i64 n, .slice A gs.length c], .int .i64 l]) (by simp [results, Tryz.results8, go_sem, r0, r1]) rfl ⟨A, c, gs, l, rfl, hGf, ⟨hgood.right, Nat.le_trans hgood.few hk4, hgood.wf, hgood.lit⟩, hlo⟩
end Go.Proofs.YtdbmepndebdbpaaGreat
/- The rows over numbers: how their slice is opened. -/
namespace Go.Proofs.YtdbmepndebdbpaaGreat
open Go.ChangeShapes Go.WideShapes Go.ChangeAt Go.RowKit Go.Deep Go.Joins Go.WideElems

theorem Tryz.laid2 : laidOutB Tryz.prog = true := by kernel_rfl
theorem Tryz.cellsU16 : Tryz.prog.cellsOf 38 = 1 := by kernel_rfl
section
variable {H : Type} {enc : TypeId × Value → H} {W : World} {base : Nat} {spare : Nat → Bool} {held : Bool}
theorem open_us {fuel : Nat} {v1 : Value} {x : DataW H × List MemPlace} (h : DataW.trod enc Tryz.prog W base spare held fuel 22 [v1] = some x) :
    ∃ (A : Option Addr) (c : Nat) (zs : List Int), v1 = .slice A zs.length c ∧ Us W W.heap.size A zs ∧ zs.length ≤ maxLen := by
  rcases open_slice Tryz.underlying22 h with ⟨hcs, _⟩ | ⟨a, len, cap, m, n, D, Pl, hcs, hb, hl, hm, hmm, _, hx⟩
  · refine ⟨none, 0, [], ?_, fun k hk => by simp at hk, Nat.zero_le _⟩
    simpa using hcs
  · have hlm : len ≤ m := by rw [hmm]; split <;> omega
    have each : ∀ i, i < len → ∃ q : Int, W.cell? (a.add (i * 1)) = some (.int .u16 q) ∧ (Lit.int .u16 q).wf = true := by
      intro i hi
      obtain ⟨cs', h1, h2⟩ := hx i (by omega)
      rw [Tryz.cellsU16] at h1
      obtain ⟨_, hlen, hcell⟩ := World.cells?_some h1
      obtain ⟨u, hu, _, wu⟩ := DataW.trod_int Tryz.underlying38 h2
      subst hu
      have e0 := hcell 0 (by omega)
      exact ⟨u, by simpa [Addr.add] using e0, wu⟩
    obtain ⟨q, hq⟩ := choose_lt each
    refine ⟨some a, cap, (List.range len).map q, ?_, fun k hk => ?_, by simp; omega⟩
    · simpa using hcs
    · have hk' : k < len := by simpa using hk
      obtain ⟨e1, w1⟩ := hq k hk'
      obtain ⟨b, off, spot⟩ := a
      have hspot : spot = none := by
        have := World.cell?_spot (hq 0 (by omega)).1
        simpa [Addr.add] using this
      subst hspot
      rw [add_plain, Nat.mul_one] at e1
      have bd := bounds_u16 w1
      refine ⟨b, off, rfl, ?_, ?_, ?_⟩
      · exact World.block_lt_of_cell? W ⟨b, off + k, none⟩ e1
      · simpa using e1
      · simpa using bd
end

end Go.Proofs.YtdbmepndebdbpaaGreat
/- Plain mathematics of package eval: the values of variables and literals, in two and in three values, as functions on lists. -/
namespace Go.Proofs.YtdbmepndebdbpaaGreat.Em

section
variable {α β : Type} {f : List α → Int × Int → α}
/-- The values of the gates, one behind the other. -/
def vals (f : List α → Int × Int → α) : List α → List (Int × Int) → List α
  | v, [] => v
  | v, g :: r => vals f (v ++ [f v g]) r
theorem vals_append (v : List α) (gs hs : List (Int × Int)) : vals f v (gs ++ hs) = vals f (vals f v gs) hs := by
  induction gs generalizing v with
  | nil => rfl
  | cons g r ih => simp only [List.cons_append, vals]; exact ih _
theorem vals_snoc (v : List α) (gs : List (Int × Int)) (g : Int × Int) : vals f v (gs ++ [g]) = vals f v gs ++ [f (vals f v gs) g] := by
  rw [vals_append]; rfl
theorem vals_length (v : List α) (gs : List (Int × Int)) : (vals f v gs).length = v.length + gs.length := by
  induction gs generalizing v with
  | nil => rfl
  | cons g r ih => simp only [vals, ih, List.length_append, List.length_cons, List.length_nil]; omega
theorem vals_take (v : List α) (gs : List (Int × Int)) (k : Nat) (hk : k < gs.length) : vals f v (gs.take (k + 1)) = vals f v (gs.take k) ++ [f (vals f v (gs.take k)) gs[k]] := by
  rw [List.take_succ_eq_append_getElem hk, vals_snoc]
theorem vals_pre (v : List α) (gs : List (Int × Int)) : ∃ t, vals f v gs = v ++ t := by
  induction gs generalizing v with
  | nil => exact ⟨[], by simp [vals]⟩
  | cons g r ih =>
    obtain ⟨t, h⟩ := ih (v ++ [f v g])
    exact ⟨f v g :: t, by simp [vals, h]⟩
theorem getD_pre (v t : List α) (d : α) {i : Nat} (h : i < v.length) : (v ++ t).getD i d = v.getD i d := by
  simp [List.getD_eq_getElem?_getD, List.getElem?_append_left h]
theorem vals_getD (v : List α) (gs : List (Int × Int)) (d : α) {i : Nat} (h : i < v.length) : (vals f v gs).getD i d = v.getD i d := by
  obtain ⟨t, e⟩ := vals_pre (f := f) v gs
  rw [e, getD_pre _ _ _ h]
/-- The value of the k-th gate. -/
theorem vals_gate (v : List α) (gs : List (Int × Int)) (d : α) (k : Nat) (hk : k < gs.length) : (vals f v gs).getD (v.length + k) d = f (vals f v (gs.take k)) gs[k] := by
  have e : vals f v gs = vals f (vals f v (gs.take (k + 1))) (gs.drop (k + 1)) := by rw [← vals_append, List.take_append_drop]
  have hl : (vals f v (gs.take k)).length = v.length + k := by rw [vals_length, List.length_take, Nat.min_eq_left (by omega)]
  rw [e, vals_getD _ _ _ (by rw [vals_length, List.length_take]; omega), vals_take v gs k hk]
  simp [List.getD_eq_getElem?_getD, ← hl]
/-- What is so of each of two lists stays so. -/
theorem vals_rel {g : List β → Int × Int → β} (R : α → β → Prop) (d : α) (e : β)
    (hf : ∀ u v x, u.length = v.length → (∀ i, R (u.getD i d) (v.getD i e)) → R (f u x) (g v x)) (hd : R d e) (gs : List (Int × Int)) :
    ∀ (u : List α) (v : List β), u.length = v.length → (∀ i, R (u.getD i d) (v.getD i e)) → ∀ i, R ((vals f u gs).getD i d) ((vals g v gs).getD i e) := by
  induction gs with
  | nil => intro u v _ h i; exact h i
  | cons x r ih =>
    intro u v hl h
    refine ih _ _ (by simp [hl]) fun i => ?_
    rcases Nat.lt_trichotomy i u.length with hi | hi | hi
    · rw [getD_pre _ _ _ hi, getD_pre _ _ _ (hl ▸ hi)]; exact h i
    · have e1 : (u ++ [f u x]).getD i d = f u x := by simp [List.getD_eq_getElem?_getD, hi]
      have e2 : (v ++ [g v x]).getD i e = g v x := by simp [List.getD_eq_getElem?_getD, hi, hl]
      rw [e1, e2]; exact hf u v x hl h
    · rw [List.getD_eq_getElem?_getD, List.getD_eq_getElem?_getD, List.getElem?_eq_none (by simp; omega), List.getElem?_eq_none (by simp; omega)]
      exact hd
end

def negL (l : Int) : Bool := decide (l % 2 = 1)
def bitB (v : List Bool) (l : Int) : Bool := v.getD (l / 2).toNat false != negL l
def gateB (v : List Bool) (g : Int × Int) : Bool := bitB v g.1 && bitB v g.2
def allB (n : Int) (gs : List (Int × Int)) (ins : List Bool) : List Bool :=
  if Gm.rightB n gs = true ∧ (ins.length : Int) = n then vals gateB (false :: ins) gs else []
def evalB (n : Int) (gs : List (Int × Int)) (l : Int) (ins : List Bool) : Bool :=
  decide (0 < (allB n gs ins).length) && Gm.litB n gs.length l && bitB (allB n gs ins) l

def turnT (x : Int) : Int := if x = 2 then 2 else 1 - x
def triT (v : List Int) (l : Int) : Int := if l % 2 = 1 then turnT (v.getD (l / 2).toNat 0) else v.getD (l / 2).toNat 0
def andT (a b : Int) : Int := if a = 0 ∨ b = 0 then 0 else if a = 1 ∧ b = 1 then 1 else 2
def gateT (v : List Int) (g : Int × Int) : Int := andT (triT v g.1) (triT v g.2)
def normT (x : Int) : Int := if x = 0 ∨ x = 1 then x else 2
def threeS (n : Int) (gs : List (Int × Int)) (l : Int) (ins : List Int) : Int :=
  if Gm.litB n gs.length l = true ∧ Gm.rightB n gs = true ∧ (ins.length : Int) = n then triT (vals gateT (0 :: ins.map normT) gs) l else 2

/-- One of three values. -/
def T3 (x : Int) : Prop := x = 0 ∨ x = 1 ∨ x = 2
theorem T3.norm (x : Int) : T3 (normT x) := by unfold T3 normT; split <;> omega
theorem T3.turn {x : Int} (h : T3 x) : T3 (turnT x) := by unfold T3 turnT at *; split <;> omega
theorem T3.and (a b : Int) : T3 (andT a b) := by unfold T3 andT; split <;> (try split) <;> omega
def All3 (v : List Int) : Prop := ∀ i, T3 (v.getD i 0)
theorem All3.tri {v : List Int} (h : All3 v) (l : Int) : T3 (triT v l) := by
  unfold triT; split
  · exact (h _).turn
  · exact h _
theorem All3.start (ins : List Int) : All3 (0 :: ins.map normT) := by
  intro i
  cases i with
  | zero => exact Or.inl rfl
  | succ i =>
    rw [List.getD_cons_succ, List.getD_eq_getElem?_getD, List.getElem?_map]
    cases ins[i]? with
    | none => exact Or.inl rfl
    | some x => exact T3.norm x
theorem All3.vals {v : List Int} (h : All3 v) (gs : List (Int × Int)) : All3 (vals gateT v gs) := by
  intro i
  exact vals_rel (f := gateT) (g := gateT) (fun a _ => T3 a) 0 0 (fun u v x _ _ => T3.and _ _) (Or.inl rfl) gs v v rfl h i

/-- In order: the literals of gate k stand on variables that come before it. -/
theorem gate_low {n : Int} {gs : List (Int × Int)} (h : Gm.ordB n 0 gs = true) {k : Nat} (hk : k < gs.length) : 2 ≤ (gs[k]).2 ∧ (gs[k]).2 / 2 < (gs[k]).1 / 2 ∧ (gs[k]).1 / 2 < n + 1 + k := by
  have h1 := Gm.ordB_false n gs 0 k hk
  rw [Nat.zero_add] at h1
  cases hg : Gm.gateB n k gs[k] with
  | false => rw [h1 hg] at h; cases h
  | true => simp only [Gm.gateB, Bool.and_eq_true, decide_eq_true_eq] at hg; omega
theorem right_ord {n : Int} {gs : List (Int × Int)} (h : Gm.rightB n gs = true) : Gm.ordB n 0 gs = true := by
  simp [Gm.rightB] at h; exact h.1.2
theorem bitB_pre (v t : List Bool) {l : Int} (h : (l / 2).toNat < v.length) : bitB (v ++ t) l = bitB v l := by
  unfold bitB; rw [getD_pre _ _ _ h]
theorem triT_pre (v t : List Int) {l : Int} (h : (l / 2).toNat < v.length) : triT (v ++ t) l = triT v l := by
  unfold triT; rw [getD_pre _ _ _ h]

/-- A value in three tells nothing, or the value in two. -/
def Ag (t : Int) (b : Bool) : Prop := t = 2 ∨ t = if b then 1 else 0
theorem Ag.and {s t : Int} {a b : Bool} (h : Ag s a) (k : Ag t b) : Ag (andT s t) (a && b) := by
  unfold Ag at *
  rcases h with rfl | rfl <;> rcases k with rfl | rfl <;> cases a <;> cases b <;> decide
theorem Ag.turn {s : Int} {a : Bool} (h : Ag s a) : Ag (turnT s) (!a) := by
  unfold Ag at *
  rcases h with rfl | rfl <;> cases a <;> decide
theorem Ag.tri {u : List Int} {v : List Bool} (h : ∀ i, Ag (u.getD i 0) (v.getD i false)) (l : Int) : Ag (triT u l) (bitB v l) := by
  unfold triT bitB negL
  have := h (l / 2).toNat
  by_cases hl : l % 2 = 1
  · simpa [hl] using this.turn
  · simpa [hl] using this
/-- A value in three is the value in two. -/
def Eq3 (t : Int) (b : Bool) : Prop := t = if b then 1 else 0
theorem Eq3.and {s t : Int} {a b : Bool} (h : Eq3 s a) (k : Eq3 t b) : Eq3 (andT s t) (a && b) := by
  unfold Eq3 at *
  subst h k
  cases a <;> cases b <;> decide
theorem Eq3.turn {s : Int} {a : Bool} (h : Eq3 s a) : Eq3 (turnT s) (!a) := by
  unfold Eq3 at *
  subst h
  cases a <;> decide
theorem Eq3.tri {u : List Int} {v : List Bool} (h : ∀ i, Eq3 (u.getD i 0) (v.getD i false)) (l : Int) : Eq3 (triT u l) (bitB v l) := by
  unfold triT bitB negL
  have := h (l / 2).toNat
  by_cases hl : l % 2 = 1
  · simpa [hl] using this.turn
  · simpa [hl] using this
/-- The same, or Either. -/
def Le3 (a b : Int) : Prop := b = 2 ∨ a = b
theorem Le3.and {a b c d : Int} (h : Le3 a b) (k : Le3 c d) (ta : T3 a) (tc : T3 c) : Le3 (andT a c) (andT b d) := by
  unfold Le3 T3 at *
  rcases h with rfl | rfl <;> rcases k with rfl | rfl <;> rcases ta with rfl | rfl | rfl <;> rcases tc with rfl | rfl | rfl <;> decide
theorem Le3.turn {a b : Int} (h : Le3 a b) : Le3 (turnT a) (turnT b) := by
  unfold Le3 at *
  rcases h with rfl | rfl
  · exact Or.inl rfl
  · exact Or.inr rfl
theorem Le3.tri {u v : List Int} (h : ∀ i, Le3 (u.getD i 0) (v.getD i 0)) (l : Int) : Le3 (triT u l) (triT v l) := by
  unfold triT
  split
  · exact (h _).turn
  · exact h _
end Go.Proofs.YtdbmepndebdbpaaGreat.Em
