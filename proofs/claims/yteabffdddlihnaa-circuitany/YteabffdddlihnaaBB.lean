/- Made: a graph by numbers. -/
import Derived.Test.YteabffdddlihnaaBA
namespace Go.Proofs.Yteabffdddlihnaa
open Go.RowKit

/-- The slice at A holds the numbers zs. -/
def Us (w : World) (B : Nat) (A : Option Addr) (zs : List Int) : Prop :=
  ∀ k (hk : k < zs.length), ∃ b off, A = some ⟨b, off, none⟩ ∧ b < B ∧ w.cell? ⟨b, off + k, none⟩ = some (.int .u16 zs[k]) ∧ 0 ≤ zs[k] ∧ zs[k] ≤ 65535
theorem Us.below {w w' : World} {B C : Nat} {A : Option Addr} {zs : List Int} (h : Us w B A zs) (hb : Below C w w') (hB : B ≤ C) : Us w' B A zs := by
  intro k hk
  obtain ⟨b, off, rfl, hlt, h1, h2⟩ := h k hk
  exact ⟨b, off, rfl, hlt, (hb.cell (p := ⟨b, _, none⟩) (Nat.lt_of_lt_of_le hlt hB)).trans h1, h2⟩
theorem ixU (sb off N c r : Nat) (hm : N ≤ 9223372036854775807) (hr : r < N) (w : World) : (Instr.indexAt 31 (.slice (some ⟨sb, off, none⟩) N c) (.int .i64 (r : Int))).run Try.prog w = .ok (.pointer (some ⟨sb, off + r, none⟩)) w := by go_simp

/-- A graph of n inputs by numbers: what is known of it. -/
structure Good (n : Int) (gs : List (Int × Int)) (k : Nat) (last : Int) : Prop where
  right : Gm.rightB n gs = true
  few : gs.length ≤ k
  wf : Wf gs
  lit : Gm.litB n gs.length last = true
theorem Good.start {n : Int} (h0 : 0 ≤ n) (h1 : n ≤ 6) : Good n [] 0 1 := by
  refine ⟨?_, by simp, wf_nil, ?_⟩
  · simp [Gm.rightB, Gm.fitB, Gm.ordB, Gm.nodB]; omega
  · simp [Gm.litB]; omega
/-- What Made keeps in its boxes. -/
structure MInv (w wr : World) (n : Int) (A : Option Addr) (c : Nat) (gs : List (Int × Int)) : Prop where
  low : Below w.heap.size w wr
  d0 : wr.cell? ⟨w.heap.size + 1, 0, none⟩ = some (.int .i64 n)
  d1 : wr.cell? ⟨w.heap.size + 1, 1, none⟩ = some (.slice A gs.length c)
  e0 : wr.cell? ⟨w.heap.size, 0, none⟩ = some (.int .i64 0)
  e1 : wr.cell? ⟨w.heap.size, 1, none⟩ = some (.slice none 0 0)
  f0 : wr.frozen? ⟨w.heap.size, 0, none⟩ = false
  f1 : wr.frozen? ⟨w.heap.size, 1, none⟩ = false
  g0 : wr.frozen? ⟨w.heap.size + 1, 0, none⟩ = false
  g1 : wr.frozen? ⟨w.heap.size + 1, 1, none⟩ = false
  sz : w.heap.size + 1 < wr.heap.size
  gr : Gr wr wr.heap.size A gs
  sep : Sep 0 (w.heap.size + 2) A
theorem MInv.below {w wr w' : World} {n : Int} {A : Option Addr} {c : Nat} {gs : List (Int × Int)} (h : MInv w wr n A c gs) (hb : Below wr.heap.size wr w') : MInv w w' n A c gs := by
  have hs := h.sz
  have hc : ∀ b i, b < w.heap.size + 2 → w'.cell? ⟨b, i, none⟩ = wr.cell? ⟨b, i, none⟩ := fun b i hlt => hb.cell (p := ⟨b, i, none⟩) (by simp; omega)
  have hf : ∀ b i, b < w.heap.size + 2 → w'.frozen? ⟨b, i, none⟩ = wr.frozen? ⟨b, i, none⟩ := fun b i hlt => hb.frozen (p := ⟨b, i, none⟩) (by simp; omega)
  exact ⟨h.low.trans (hb.mono h.low.size), (hc _ _ (by omega)).trans h.d0, (hc _ _ (by omega)).trans h.d1, (hc _ _ (by omega)).trans h.e0, (hc _ _ (by omega)).trans h.e1, (hf _ _ (by omega)).trans h.f0, (hf _ _ (by omega)).trans h.f1, (hf _ _ (by omega)).trans h.g0, (hf _ _ (by omega)).trans h.g1,
    Nat.lt_of_lt_of_le hs hb.size, (h.gr.below hb (Nat.le_refl _)).more hb.size, h.sep⟩
theorem MInv.drewN {w wr : World} {n : Int} {A : Option Addr} {c : Nat} {gs : List (Int × Int)} (h : MInv w wr n A c gs) (q : Nat) : MInv w (wr.drewN q) n A c gs :=
  ⟨below_drewN h.low q, h.d0, h.d1, h.e0, h.e1, h.f0, h.f1, h.g0, h.g1, h.sz, h.gr, h.sep⟩
theorem MInv.put {w wr : World} {n : Int} {A A' : Option Addr} {c c' : Nat} {gs gs' : List (Int × Int)} (h : MInv w wr n A c gs) (hG : Gr wr wr.heap.size A' gs') (hs : Sep 0 (w.heap.size + 2) A') :
    MInv w ((wr.setCell ⟨w.heap.size + 1, 0, none⟩ (.int .i64 n)).setCell ⟨w.heap.size + 1, 1, none⟩ (.slice A' gs'.length c')) n A' c' gs' := by
  have hne : ∀ ad, A' = some ad → ad.block ≠ w.heap.size + 1 := hs.ne (Nat.zero_le _) (by omega)
  refine ⟨(h.low.setCell (by simp) _).setCell (by simp) _, ?_, ?_, keep2 h.e0 (by omega), keep2 h.e1 (by omega), by simpa using h.f0, by simpa using h.f1, by simpa using h.g0, by simpa using h.g1, by simpa using h.sz, ?_, hs⟩
  · exact (World.cell?_setCell_other _ _ _ _ (by simp)).trans (World.cell?_setCell_same _ _ _ h.d0)
  · exact World.cell?_setCell_same _ _ _ ((World.cell?_setCell_other _ _ _ _ (by simp)).trans h.d1)
  · have := (hG.set (p := ⟨w.heap.size + 1, 0, none⟩) hne (.int .i64 n)).set (p := ⟨w.heap.size + 1, 1, none⟩) hne (.slice A' gs'.length c')
    simpa using this
theorem MInv.drew {w wr : World} {n : Int} {A : Option Addr} {c : Nat} {gs : List (Int × Int)} (h : MInv w wr n A c gs) : MInv w wr.drew n A c gs :=
  ⟨h.low.drew, h.d0, h.d1, h.e0, h.e1, h.f0, h.f1, h.g0, h.g1, h.sz, h.gr, h.sep⟩
theorem xor_zero (x : Int) (h0 : 0 ≤ x) (h1 : x ≤ 9223372036854775807) : bits .xor .i64 x 0 = x := by
  obtain ⟨m, rfl⟩ := Int.eq_ofNat_of_zero_le h0
  have := Gm.i64_xor_nat m 0 (by omega) (by omega)
  simpa using this
theorem xor_lit {n : Int} {l : Nat} {x t : Int} (h : Gm.litB n l x = true) (hx : x ≤ 9223372036854775807) (ht : t = 0 ∨ t = 1) : Gm.litB n l (bits .xor .i64 x t) = true := by
  have h0 := (lit_facts h).1
  rcases ht with rfl | rfl
  · rw [xor_zero x h0 hx]; exact h
  · rw [Gm.bits_neg x h0 hx]; exact neg_lit h
theorem made_close {w wr : World} {n : Int} {A : Option Addr} {c : Nat} {gs : List (Int × Int)} (h : MInv w wr n A c gs) :
    Below w.heap.size w ((wr.setCell ⟨w.heap.size, 0, none⟩ (.int .i64 n)).setCell ⟨w.heap.size, 1, none⟩ (.slice A gs.length c)) ∧
    ((wr.setCell ⟨w.heap.size, 0, none⟩ (.int .i64 n)).setCell ⟨w.heap.size, 1, none⟩ (.slice A gs.length c)).cell? ⟨w.heap.size, 0, none⟩ = some (.int .i64 n) ∧
    ((wr.setCell ⟨w.heap.size, 0, none⟩ (.int .i64 n)).setCell ⟨w.heap.size, 1, none⟩ (.slice A gs.length c)).cell? ⟨w.heap.size, 1, none⟩ = some (.slice A gs.length c) ∧
    Gr ((wr.setCell ⟨w.heap.size, 0, none⟩ (.int .i64 n)).setCell ⟨w.heap.size, 1, none⟩ (.slice A gs.length c)) ((wr.setCell ⟨w.heap.size, 0, none⟩ (.int .i64 n)).setCell ⟨w.heap.size, 1, none⟩ (.slice A gs.length c)).heap.size A gs := by
  have hne : ∀ ad, A = some ad → ad.block ≠ w.heap.size := h.sep.ne (Nat.zero_le _) (by omega)
  refine ⟨(h.low.setCell (by simp) _).setCell (by simp) _, ?_, ?_, ?_⟩
  · exact (World.cell?_setCell_other _ _ _ _ (by simp)).trans (World.cell?_setCell_same _ _ _ h.e0)
  · exact World.cell?_setCell_same _ _ _ ((World.cell?_setCell_other _ _ _ _ (by simp)).trans h.e1)
  · have := (h.gr.set (p := ⟨w.heap.size, 0, none⟩) hne (.int .i64 n)).set (p := ⟨w.heap.size, 1, none⟩) hne (.slice A gs.length c)
    simpa using this
/-- What Made hands back. -/
def MadePost (n : Int) (w : World) (e : Ending) (w' : World) : Prop :=
  ∃ (A : Option Addr) (c : Nat) (gs : List (Int × Int)) (last : Int), e = .returned (.tuple #[.agg #[.int .i64 n, .slice A gs.length c], .int .i64 last]) ∧ Gr w' w'.heap.size A gs ∧ Good n gs 40 last ∧ Below w.heap.size w w'
/-- The loop's relation. -/
def MRel (w : World) (n : Int) (len : Nat) (last i : Value) (wr : World) : Prop :=
  ∃ (k : Nat) (A : Option Addr) (c : Nat) (gs : List (Int × Int)) (l : Int), k ≤ len ∧ k ≤ 40 ∧ i = .int .i64 (k : Int) ∧ last = .int .i64 l ∧ Good n gs k l ∧ MInv w wr n A c gs

set_option maxRecDepth 100000 in
set_option maxHeartbeats 4000000 in
theorem made_any (n : Int) (A0 : Option Addr) (c0 : Nat) (zs : List Int) (w : World) (h0 : 0 ≤ n) (h6 : n ≤ 6) (hm : zs.length ≤ maxLen) (hU : Us w w.heap.size A0 zs) :
    Calls Try.prog 25 #[.int .i64 n, .slice A0 zs.length c0] w (MadePost n w) := by
  unfold maxLen at hm
  have hst : MInv w ((w.alloc (Obj.cells #[Value.int .i64 0, .slice none 0 0] 45)).alloc (Obj.cells #[.int .i64 n, .slice none 0 0] 45)) n none 0 [] :=
    ⟨((Below.refl w.heap.size w).alloc (Nat.le_refl _) _).alloc (by simp) _, by go_simp, by go_simp, by go_simp, by go_simp, by go_simp, by go_simp, by go_simp, by go_simp, by simp, gr_nil, Sep.none_⟩
  have HST := Lib.hid hst
  clear hst
  go_enter Try.func25, Try.ntmps25
  go_wp2
  go_loopw [7, 8] (fun last i wr => MRel w n zs.length last i wr) (fun _ i _ => 40 - (intOf i).toNat)
  case atStart => exact ⟨0, none, 0, [], 1, Nat.zero_le _, by omega, rfl, rfl, Good.start h0 h6, HST.out⟩
  case round =>
    obtain ⟨k, A, c, gs, l, hk, hk4, rfl, rfl, hgood, hinv⟩ := hrel
    have d0 := hinv.d0
    have d1 := hinv.d1
    by_cases hlt : k < zs.length
    · by_cases hlt4 : k < 40
      · have hgl := hgood.few
        obtain ⟨b, off, hA, hbB, z1, z2, z3⟩ := (hU.below hinv.low (Nat.le_refl _)) k hlt
        subst hA
        generalize zs[k] = z at *
        go_wp2_with fail
        refine (refVars_any n A gs.length c wr h0 (by omega) (by omega)).mono ?_
        rintro e w1 ⟨rfl, hb1⟩
        have hi1 := hinv.below hb1
        have z1' := (hb1.cell (p := ⟨b, off + k, none⟩) (Nat.lt_of_lt_of_le hbB hinv.low.size)).trans z1
        have hix := ixU b off zs.length c0 k (by omega) hlt
        go_upto_region 7 with fail
        generalize hM : 2 * (n + 1 + (gs.length : Int)) = M at *
        have hM0 : 0 < M := by omega
        have hM1 : M ≤ 94 := by omega
        have hM2 : ¬ M = 0 := by omega
        have HM := Lib.hid hM
        clear hM z1 d0 d1
        have hd1 := Int.emod_nonneg z hM2
        have hd2 := Int.emod_lt_of_pos z hM0
        have hq0 : 0 ≤ z / M := Int.ediv_nonneg z2 (by omega)
        have hd3 := Int.emod_nonneg (z / M) hM2
        have hd4 := Int.emod_lt_of_pos (z / M) hM0
        have hgood' := hgood
        obtain ⟨hr, hfew, hwf, hlit⟩ := hgood'
        have hx : Gm.litB n gs.length (z % M) = true := lit_mk h0 (by omega) hd1 (by have := HM.out; omega)
        have hy : Gm.litB n gs.length (z / M % M) = true := lit_mk h0 (by omega) hd3 (by have := HM.out; omega)
        have hag := and_good hr hx hy (by omega)
        have haf := and_facts n gs (z % M) (z / M % M) hwf
        have HAND := Lib.hid (fun q => refAnd_any n A c gs (z % M) (z / M % M) (w1.drewN q) w1.heap.size (by omega) hi1.gr (Nat.le_refl _) hwf (by omega) (by omega))
        go_quiet (fail)
        generalize Gm.andS n gs (z % M) (z / M % M) = r at *
        obtain ⟨⟨n', gs'⟩, l', er⟩ := r
        obtain ⟨he, hi, hr', hlit', hgrow, _⟩ := hag
        simp only at he hi hr' hlit' hgrow
        subst he hi
        have hwf' : Wf gs' := haf.wf
        have d0 := hi1.d0
        have d1 := hi1.d1
        go_wp2_with fail
        refine (HAND.out nq).mono ?_
        rintro e w2 ⟨A', c', rfl, hG2, hsep2, hb2⟩
        have hi2 := (hi1.drewN nq).below hb2
        have hi3 := hi2.below ((Below.refl w2.heap.size w2).alloc (Nat.le_refl _) (Obj.cells #[.int .i64 n', .slice A' gs'.length c'] 45))
        have hk3 := Blk.new w2 45 #[.int .i64 n', .slice A' gs'.length c']
        have hG3 := (hG2.below ((Below.refl w2.heap.size w2).alloc (Nat.le_refl _) (Obj.cells #[.int .i64 n', .slice A' gs'.length c'] 45)) (Nat.le_refl _)).more (by simp : w2.heap.size ≤ (w2.alloc (Obj.cells #[.int .i64 n', .slice A' gs'.length c'] 45)).heap.size)
        have hsp : Sep 0 (w.heap.size + 2) A' := by
          rcases hsep2 with ⟨rfl, _⟩ | h
          · exact hinv.sep
          · exact h.mono (Nat.le_refl _) hi1.sz
        have z1'' : (w2.alloc (Obj.cells #[.int .i64 n', .slice A' gs'.length c'] 45)).cell? ⟨b, off + k, none⟩ = some (.int .u16 z) :=
          (World.cell?_alloc_lt w2 _ ⟨b, off + k, none⟩ (Nat.lt_of_lt_of_le (Nat.lt_of_lt_of_le hbB hi1.low.size) hb2.size)).trans ((hb2.cell (p := ⟨b, off + k, none⟩) (Nat.lt_of_lt_of_le hbB hi1.low.size)).trans z1')
        have q0 := hk3.cell 0
        have q1 := hk3.cell 1
        simp only [List.getElem?_toArray, List.getElem?_cons_zero, List.getElem?_cons_succ] at q0 q1
        have hlt3 : w.heap.size + 1 < w2.heap.size := hi2.sz
        clear d0 d1 z1'
        go_upto_region 10 with fail
        generalize w2.alloc (Obj.cells #[.int .i64 n', .slice A' gs'.length c'] 45) = V at *
        have d0 := hi3.d0
        have d1 := hi3.d1
        have g0 := hi3.g0
        have g1 := hi3.g1
        go_region
        go_wp2
        have hl4 : l' ≤ 4000 := haf.lit1
        have hgd : Good n' gs' (k + 1) (bits .xor .i64 l' (z / 7 % 2)) := ⟨hr', by omega, hwf', xor_lit hlit' (by omega) (by omega)⟩
        have hfin : MInv w ((V.setCell ⟨w.heap.size + 1, 0, none⟩ (.int .i64 n')).setCell ⟨w.heap.size + 1, 1, none⟩ (.slice A' gs'.length c')).drew n' A' c' gs' := (hi3.put hG3 hsp).drew
        exact ⟨⟨k + 1, A', c', gs', _, by omega, by omega, by go_num, rfl, hgd, hfin⟩, by simp [intOf]; omega⟩
      · have hd : decide ((k : Int) < 40) = false := by simp; omega
        have e0 := hinv.e0
        have e1 := hinv.e1
        have f0 := hinv.f0
        have f1 := hinv.f1
        go_wp2
        obtain ⟨hlo, r0, r1, hGf⟩ := made_close hinv
        exact bodyPost_ret (v := .tuple #[.agg #[.int .i64 n, .slice A gs.length c], .int .i64 l]) (by simp [results, Try.results25, go_sem, r0, r1]) rfl ⟨A, c, gs, l, rfl, hGf, ⟨hgood.right, Nat.le_trans hgood.few hk4, hgood.wf, hgood.lit⟩, hlo⟩
    · have hd : decide ((k : Int) < (zs.length : Int)) = false := by simp; omega
      have e0 := hinv.e0
      have e1 := hinv.e1
      have f0 := hinv.f0
      have f1 := hinv.f1
      go_wp2
      obtain ⟨hlo, r0, r1, hGf⟩ := made_close hinv
      exact bodyPost_ret (v := .tuple #[.agg #[.int .i64 n, .slice A gs.length c], .int .i64 l]) (by simp [results, Try.results25, go_sem, r0, r1]) rfl ⟨A, c, gs, l, rfl, hGf, ⟨hgood.right, Nat.le_trans hgood.few hk4, hgood.wf, hgood.lit⟩, hlo⟩
end Go.Proofs.Yteabffdddlihnaa
