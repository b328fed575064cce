/- suits, All, Eval and Three, of the program. -/
import Derived.Test.YtpbbjklacgkcgaaDoorEE
namespace Go.Proofs.YtpbbjklacgkcgaaDoor
open Go.RowKit

theorem grown_low {w w' : World} {B g : Nat} (h : w.grownBy w' (some g)) (hg : B ≤ g) (hB : B ≤ w.heap.size) : Below B w w' :=
  ⟨h.os, h.tape, h.output, h.size, fun k hk => h.block k (by omega) (fun e => by injection e with e; omega)⟩
def suitB (n : Int) (gs : List (Int × Int)) (k : Int) : Bool := decide (k = n) && Gm.rightB n gs

set_option maxRecDepth 100000 in
set_option maxHeartbeats 2000000 in
theorem suits_any (n : Int) (A : Option Addr) (c : Nat) (gs : List (Int × Int)) (k : Int) (w : World) (B : Nat) (hl : gs.length ≤ 1000000) (hg : Gr w B A gs) (hB : B ≤ w.heap.size) (hw : Wf gs) :
    Calls Tryd.prog 23 #[.agg #[.int .i64 n, .slice A gs.length c], .int .i64 k] w fun e w' => e = .returned (.bool (suitB n gs k)) ∧ Below w.heap.size w w' := by
  have lo : Below w.heap.size w (w.alloc (Obj.cells #[.int .i64 n, .slice A gs.length c] 24)) := (Below.refl _ _).alloc (Nat.le_refl _) _
  have HR := Lib.hid (Right_any n A c gs _ B hl (hg.below lo hB) (Nat.le_trans hB lo.size) hw)
  unfold suitB
  by_cases hk : k = n
  · subst hk
    rw [decide_eq_true rfl, Bool.true_and]
    go_enter Tryd.func23, Tryd.ntmps23
    go_wp2_with (go_at_call 47; refine HR.out.mono ?_; rintro e w1 ⟨rfl, hb1⟩)
    go_ret
    exact ⟨rfl, lo.trans (hb1.mono lo.size)⟩
  · have e : decide (k = n) = false := decide_eq_false hk
    rw [e, Bool.false_and]
    clear HR
    go_enter Tryd.func23, Tryd.ntmps23
    go_wp2_with fail
    go_ret
    exact ⟨rfl, lo⟩

/-- A list of bools, as a call answers it. -/
def BList (bs : List Bool) (w : World) (e : Ending) (w' : World) : Prop :=
  ∃ A c, e = .returned (.slice A bs.length c) ∧ Vs w' w'.heap.size A (bv bs) ∧ Below w.heap.size w w'
theorem vs_nil {w : World} {B : Nat} {A : Option Addr} : Vs w B A [] := fun k hk => by simp at hk
theorem allB_no {n : Int} {gs : List (Int × Int)} {ins : List Bool} (h : suitB n gs ins.length = false) : Em.allB n gs ins = [] := by
  unfold Em.allB
  rw [if_neg]
  rintro ⟨h1, h2⟩
  simp [suitB, h1, h2] at h
theorem suit_facts {n : Int} {gs : List (Int × Int)} {k : Int} (h : suitB n gs k = true) : k = n ∧ Gm.rightB n gs = true := by
  simpa [suitB] using h

set_option maxRecDepth 100000 in
set_option maxHeartbeats 4000000 in
theorem all_any (n : Int) (A : Option Addr) (c : Nat) (gs : List (Int × Int)) (A2 : Option Addr) (c2 : Nat) (ins : List Bool) (w : World) (hl : gs.length ≤ 100000) (hi : ins.length ≤ 100000) (hg : Gr w w.heap.size A gs) (hw : Wf gs) (hV : Vs w w.heap.size A2 (bv ins)) :
    Calls Tryd.prog 11 #[.agg #[.int .i64 n, .slice A gs.length c], .slice A2 ins.length c2] w (BList (Em.allB n gs ins) w) := by
  have g0 := GX.new (n := n) (c := c) (l := gs.length) hg 24
  have lo : Below w.heap.size w (w.alloc (Obj.cells #[.int .i64 n, .slice A gs.length c] 24)) := (Below.refl _ _).alloc (Nat.le_refl _) _
  have HV := (hV.below lo (Nat.le_refl _)).more lo.size
  have HS := Lib.hid (suits_any n A c gs ins.length _ _ (by omega) g0.gr (Nat.le_refl _) hw)
  have HN := Lib.hid (allB_no (n := n) (gs := gs) (ins := ins))
  have HF := Lib.hid (suit_facts (n := n) (gs := gs) (k := ins.length))
  have hnot : ∀ (x : Bool) (w : World), (Op.unary .not (.bool x)).run Tryd.prog w = .ok (.bool (!x)) w := fun _ _ => rfl
  generalize suitB n gs ins.length = s at *
  cases s with
  | false =>
    rw [HN.out rfl]
    clear HN HF g0 HV
    go_enter Tryd.func11, Tryd.ntmps11
    go_wp2_with (go_at_call 23; refine HS.out.mono ?_; rintro e w1 ⟨rfl, hb1⟩)
    go_ret
    exact ⟨none, 0, rfl, vs_nil, lo.trans (hb1.mono lo.size)⟩
  | true =>
    obtain ⟨hn, hr⟩ := HF.out rfl
    have e : Em.allB n gs ins = Em.vals Em.gateB (false :: ins) gs := by unfold Em.allB; rw [if_pos ⟨hr, hn⟩]
    rw [e]
    have HE := Lib.hid hn
    have HR := Lib.hid hr
    clear HN HF e hr hn
    go_enter Tryd.func11, Tryd.ntmps11
    go_wp2_with fail
    refine HS.out.mono ?_
    rintro e w1 ⟨rfl, hb1⟩
    replace g0 := g0.below hb1
    replace HV := (HV.below hb1 (Nat.le_refl _)).more hb1.size
    replace lo := lo.trans (hb1.mono lo.size)
    have k0 := g0.c0
    have k1 := g0.c1
    clear HS hb1
    go_wp2_with fail
    refine (startB_any n A c gs.length false A2 c2 ins w1 _ hl hi HV (Nat.le_refl _)).mono ?_
    rintro e w2 ⟨vb, rfl, hvb, hblk, hb2⟩
    have hls := lo.size
    replace g0 := (g0.below hb2).alloc (Obj.cells #[.slice (some ⟨vb, 0, none⟩) (1 + (ins.length + gs.length)) (1 + (ins.length + gs.length))] 25)
    have hvl := hblk.lt
    have hcbk := Blk.new w2 25 #[.slice (some ⟨vb, 0, none⟩) (1 + (ins.length + gs.length)) (1 + (ins.length + gs.length))]
    replace hblk := hblk.alloc (Obj.cells #[.slice (some ⟨vb, 0, none⟩) (1 + (ins.length + gs.length)) (1 + (ins.length + gs.length))] 25)
    have hbs := hb2.size
    replace lo := (lo.trans (hb2.mono lo.size)).alloc (Nat.le_trans lo.size hb2.size) (Obj.cells #[.slice (some ⟨vb, 0, none⟩) (1 + (ins.length + gs.length)) (1 + (ins.length + gs.length))] 25)
    have hg3 : Gr (w2.alloc (Obj.cells #[.slice (some ⟨vb, 0, none⟩) (1 + (ins.length + gs.length)) (1 + (ins.length + gs.length))] 25)) w.heap.size A gs := hg.below lo (Nat.le_refl _)
    clear k0 k1 hb2 HV
    go_upto_region 4 with fail
    generalize w2.alloc (Obj.cells #[.slice (some ⟨vb, 0, none⟩) (1 + (ins.length + gs.length)) (1 + (ins.length + gs.length))] 25) = V at *
    have k0 := g0.c0
    have k1 := g0.c1
    have kc := hcbk.cell 0
    have HB : Hid (Blk V vb 4 (bv (padded Em.gateB false (false :: ins) gs 0)).toArray) := by
      have := hblk
      simp only [Lib.hid, padded_zero, bv, List.map_append, List.map_replicate, List.map_cons, List.cons_append]
      exact this
    clear hblk
    simp only [List.getElem?_toArray, List.getElem?_cons_zero] at kc
    go_wp2_with fail
    refine (fillB_any n A c gs vb w2.heap.size ins V w.heap.size HR.out HE.out hg3 lo.size (by omega) (by omega) hcbk.lt kc HB.out).mono ?_
    rintro e w3 ⟨rfl, hfin, hgr⟩
    have kc3 : w3.cell? ⟨w2.heap.size, 0, none⟩ = some (.slice (some ⟨vb, 0, none⟩) (1 + (ins.length + gs.length)) (1 + (ins.length + gs.length))) := (World.cell?_of_block (a := ⟨w2.heap.size, 0, none⟩) (hgr.block w2.heap.size hcbk.lt (fun e => by injection e with e; omega))).trans kc
    clear k0 k1 kc
    go_wp2_with fail
    go_ret
    rw [padded_all] at hfin
    refine ⟨some ⟨vb, 0, none⟩, 1 + (ins.length + gs.length), ?_, hfin.vs, lo.trans (grown_low hgr (by omega) lo.size)⟩
    rw [Em.vals_length, List.length_cons, show ins.length + 1 + gs.length = 1 + (ins.length + gs.length) by omega]
    rfl

set_option maxRecDepth 100000 in
set_option maxHeartbeats 4000000 in
theorem eval_any (n : Int) (A : Option Addr) (c : Nat) (gs : List (Int × Int)) (l : Int) (A2 : Option Addr) (c2 : Nat) (ins : List Bool) (w : World) (hl : gs.length ≤ 100000) (hi : ins.length ≤ 100000) (hg : Gr w w.heap.size A gs) (hw : Wf gs) (hV : Vs w w.heap.size A2 (bv ins)) :
    Calls Tryd.prog 13 #[.agg #[.int .i64 n, .slice A gs.length c], .int .i64 l, .slice A2 ins.length c2] w fun e w' => e = .returned (.bool (Em.evalB n gs l ins)) ∧ Below w.heap.size w w' := by
  have g0 := GX.new (n := n) (c := c) (l := gs.length) hg 24
  have lo : Below w.heap.size w (w.alloc (Obj.cells #[.int .i64 n, .slice A gs.length c] 24)) := (Below.refl _ _).alloc (Nat.le_refl _) _
  have HV := (hV.below lo (Nat.le_refl _)).more lo.size
  have HA := Lib.hid (all_any n A c gs A2 c2 ins _ hl hi g0.gr hw HV)
  have HL := Lib.hid (fun w => lit_any n A gs.length c l w (by omega))
  have HLF := Lib.hid (fun h => lit_facts (n := n) (l := gs.length) (x := l) h)
  have HN : Hid ((Em.allB n gs ins) = [] ∨ 0 ≤ n ∧ ((Em.allB n gs ins).length : Int) = 1 + n + gs.length ∧ (Em.allB n gs ins).length ≤ 1000000) := by
    unfold Hid Em.allB
    split
    · rename_i h
      right
      have := right_facts h.1
      rw [Em.vals_length, List.length_cons]
      omega
    · exact Or.inl rfl
  unfold Em.evalB
  generalize Em.allB n gs ins = v at *
  generalize Gm.litB n gs.length l = b at *
  clear HV
  obtain ⟨z, hz⟩ : ∃ z, z = (decide (0 < v.length) && b && Em.bitB v l) := ⟨_, rfl⟩
  rw [← hz]
  have HZ := Lib.hid hz
  clear hz
  go_enter Tryd.func13, Tryd.ntmps13
  go_wp2_with fail
  refine HA.out.mono ?_
  rintro e w1 ⟨A', c', rfl, hV1, hb1⟩
  replace g0 := g0.below hb1
  replace lo := lo.trans (hb1.mono lo.size)
  have k0 := g0.c0
  have k1 := g0.c1
  clear HA hb1
  go_upto_region 2 with fail
  rcases HN.out with rfl | ⟨hn0, hvl, hvm⟩
  · go_wp2_with fail
    go_ret
    exact ⟨ret_bool (by rw [HZ.out]; rfl), lo⟩
  · have hpos : 0 < v.length := by omega
    have hpi : (0 : Int) < (v.length : Int) := by omega
    rw [decide_eq_true hpos, Bool.true_and] at HZ
    have HP := Lib.hid hvl
    clear hvl
    cases b with
    | false =>
      go_wp2_with (go_at_call 30; refine (HL.out _).mono ?_; rintro e w2 ⟨rfl, hb2⟩)
      go_ret
      exact ⟨ret_bool HZ.out.symm, lo.trans (hb2.mono lo.size)⟩
    | true =>
      have hlf := HLF.out rfl
      have HT := Lib.hid (fun w hb => two_any A' c' v l w w1.heap.size hb hlf.1 (by have := HP.out; omega) hvm)
      rw [Bool.true_and] at HZ
      generalize Em.bitB v l = r at *
      clear hlf
      go_wp2_with (first | (go_at_call 30; refine (HL.out _).mono ?_; rintro e w2 ⟨rfl, hb2⟩) | (go_at_call 27; refine (HT.out _ (hV1.below hb2 (Nat.le_refl _))).mono ?_; rintro e w3 ⟨rfl, m, rfl⟩))
      go_ret
      exact ⟨ret_bool HZ.out.symm, below_drewN (lo.trans (hb2.mono lo.size)) _⟩

theorem three_no {n : Int} {gs : List (Int × Int)} {l : Int} {ins : List Int} (h : (Gm.litB n gs.length l && suitB n gs ins.length) = false) : Em.threeS n gs l ins = 2 := by
  unfold Em.threeS
  rw [if_neg]
  rintro ⟨h1, h2, h3⟩
  simp [suitB, h1, h2, h3] at h

set_option maxRecDepth 100000 in
set_option maxHeartbeats 4000000 in
theorem Three_any (n : Int) (A : Option Addr) (c : Nat) (gs : List (Int × Int)) (l : Int) (A2 : Option Addr) (c2 : Nat) (ins : List Int) (w : World) (hl : gs.length ≤ 100000) (hi : ins.length ≤ 100000) (hg : Gr w w.heap.size A gs) (hw : Wf gs) (hV : Vs w w.heap.size A2 (iv ins)) (hT : Tabs w) :
    Calls Tryd.prog 15 #[.agg #[.int .i64 n, .slice A gs.length c], .int .i64 l, .slice A2 ins.length c2] w fun e w' => e = .returned (.int .i64 (Em.threeS n gs l ins)) ∧ Below w.heap.size w w' := by
  have g0 := GX.new (n := n) (c := c) (l := gs.length) hg 24
  have lo : Below w.heap.size w (w.alloc (Obj.cells #[.int .i64 n, .slice A gs.length c] 24)) := (Below.refl _ _).alloc (Nat.le_refl _) _
  have HL := Lib.hid (fun w => lit_any n A gs.length c l w (by omega))
  have HS := Lib.hid (fun w hG => suits_any n A c gs ins.length w w.heap.size (by omega) hG (Nat.le_refl _) hw)
  have HN := Lib.hid (three_no (n := n) (gs := gs) (l := l) (ins := ins))
  have HF := Lib.hid (suit_facts (n := n) (gs := gs) (k := ins.length))
  have hnot : ∀ (x : Bool) (w : World), (Op.unary .not (.bool x)).run Tryd.prog w = .ok (.bool (!x)) w := fun _ _ => rfl
  have HLF := Lib.hid (fun h => lit_facts (n := n) (l := gs.length) (x := l) h)
  have HLT := Lib.hid (show Gm.litB n gs.length l = Gm.litB n gs.length l from rfl)
  have HE : Hid (∀ hb : Gm.litB n gs.length l = true, ∀ hs : suitB n gs ins.length = true, Em.threeS n gs l ins = Em.triT (Em.vals Em.gateT (0 :: ins.map Em.normT) gs) l) := by
    intro hb hs
    have := suit_facts hs
    unfold Em.threeS
    rw [if_pos ⟨hb, this.2, this.1⟩]
  generalize suitB n gs ins.length = s at *
  generalize hbb : Gm.litB n gs.length l = b at *
  cases b with
  | false =>
    rw [HN.out (Bool.false_and _)]
    clear HN HF HE HLF HLT
    go_enter Tryd.func15, Tryd.ntmps15
    go_wp2_with (go_at_call 30; refine (HL.out _).mono ?_; rintro e w1 ⟨rfl, hb1⟩)
    go_ret
    exact ⟨rfl, lo.trans (hb1.mono lo.size)⟩
  | true =>
    cases s with
    | false =>
      rw [HN.out (Bool.and_false _)]
      clear HN HF HE HLF HLT
      go_enter Tryd.func15, Tryd.ntmps15
      go_wp2_with fail
      refine (HL.out _).mono ?_
      rintro e w1 ⟨rfl, hb1⟩
      replace g0 := g0.below hb1
      replace lo := lo.trans (hb1.mono lo.size)
      have k0 := g0.c0
      have k1 := g0.c1
      go_wp2_with fail
      refine (HS.out _ g0.gr).mono ?_
      rintro e w2 ⟨rfl, hb2⟩
      go_wp2_with fail
      go_ret
      exact ⟨rfl, lo.trans (hb2.mono lo.size)⟩
    | true =>
      rw [HE.out rfl rfl]
      obtain ⟨hn, hr⟩ := HF.out rfl
      have HQ := Lib.hid hn
      have HR := Lib.hid hr
      have hlf := Lib.hid (HLF.out rfl)
      clear HN HF HE HLF HLT hn hr
      go_enter Tryd.func15, Tryd.ntmps15
      go_wp2_with fail
      refine (HL.out _).mono ?_
      rintro e w1 ⟨rfl, hb1⟩
      replace g0 := g0.below hb1
      replace lo := lo.trans (hb1.mono lo.size)
      have k0 := g0.c0
      have k1 := g0.c1
      go_wp2_with fail
      refine (HS.out _ g0.gr).mono ?_
      rintro e w2 ⟨rfl, hb2⟩
      replace g0 := g0.below hb2
      replace lo := lo.trans (hb2.mono lo.size)
      clear k0 k1 hb1 hb2 HS HL
      have k0 := g0.c0
      have k1 := g0.c1
      go_wp2_with fail
      have hls := lo.size
      have hgl2 := g0.lt
      refine (startI_any n A c gs.length 0 A2 c2 ins w2 w.heap.size hl hi (hV.below lo (Nat.le_refl _)) lo.size).mono ?_
      rintro e w3 ⟨vb, rfl, hvb, hblk, hb3⟩
      replace g0 := (g0.below hb3).alloc (Obj.cells #[.slice (some ⟨vb, 0, none⟩) (1 + (ins.length + gs.length)) (1 + (ins.length + gs.length))] 26)
      have hvl := hblk.lt
      have hcbk := Blk.new w3 26 #[.slice (some ⟨vb, 0, none⟩) (1 + (ins.length + gs.length)) (1 + (ins.length + gs.length))]
      replace hblk := hblk.alloc (Obj.cells #[.slice (some ⟨vb, 0, none⟩) (1 + (ins.length + gs.length)) (1 + (ins.length + gs.length))] 26)
      have hbs := hb3.size
      replace lo := (lo.trans (hb3.mono lo.size)).alloc (Nat.le_trans lo.size hb3.size) (Obj.cells #[.slice (some ⟨vb, 0, none⟩) (1 + (ins.length + gs.length)) (1 + (ins.length + gs.length))] 26)
      clear k0 k1 hb3
      go_upto_region 4 with fail
      generalize w3.alloc (Obj.cells #[.slice (some ⟨vb, 0, none⟩) (1 + (ins.length + gs.length)) (1 + (ins.length + gs.length))] 26) = V at *
      have kc := hcbk.cell 0
      simp only [List.getElem?_toArray, List.getElem?_cons_zero] at kc
      have HB : Hid (Blk V vb 3 (iv (0 :: (ins ++ List.replicate gs.length 0))).toArray) := by
        have := hblk
        simp only [iv, List.map_append, List.map_replicate, List.map_cons, List.cons_append]
        exact this
      have HO := open_any vb (0 :: (ins ++ List.replicate gs.length 0)) V (by simp; omega) HB.out
      rw [show (0 :: (ins ++ List.replicate gs.length 0) : List Int).length = 1 + (ins.length + gs.length) by simp; omega] at HO
      have HO2 := Lib.hid HO
      clear hblk HO
      go_wp2_with fail
      refine HO2.out.mono ?_
      rintro e w4 ⟨rfl, hbk4, hgr4⟩
      have hVl := g0.lt
      have k0 : w4.cell? ⟨w.heap.size, 0, none⟩ = some (.int .i64 n) := (World.cell?_of_block (a := ⟨w.heap.size, 0, none⟩) (hgr4.block w.heap.size g0.lt (fun e => by injection e with e; omega))).trans g0.c0
      have k1 : w4.cell? ⟨w.heap.size, 1, none⟩ = some (.slice A gs.length c) := (World.cell?_of_block (a := ⟨w.heap.size, 1, none⟩) (hgr4.block w.heap.size g0.lt (fun e => by injection e with e; omega))).trans g0.c1
      have kc4 : w4.cell? ⟨w3.heap.size, 0, none⟩ = some (.slice (some ⟨vb, 0, none⟩) (1 + (ins.length + gs.length)) (1 + (ins.length + gs.length))) := (World.cell?_of_block (a := ⟨w3.heap.size, 0, none⟩) (hgr4.block w3.heap.size hcbk.lt (fun e => by injection e with e; omega))).trans kc
      have lo4 := lo.trans (grown_low hgr4 (B := w.heap.size) (by omega) lo.size)
      have hT4 : Tabs w4 := hT.below lo4 hT.sz
      have hsz4 : w3.heap.size < w4.heap.size := Nat.lt_of_lt_of_le hcbk.lt hgr4.size
      have HB4 : Hid (Blk w4 vb 3 (iv (padded Em.gateT 0 (0 :: ins.map Em.normT) gs 0)).toArray) := by
        have := hbk4
        rw [List.map_cons, List.map_append, List.map_replicate, show Em.normT 0 = 0 from rfl] at this
        exact this
      have h2 := hT.sz
      have HFI := fillI_any n A c gs vb w3.heap.size (ins.map Em.normT) w4 w.heap.size HR.out (by rw [List.length_map]; exact HQ.out) (hg.below lo4 (Nat.le_refl _)) lo4.size (by omega) hT4 (by omega) (Em.All3.start ins) (by omega) hsz4 (by rw [List.length_map]; exact kc4) HB4.out
      rw [List.length_map, padded_all] at HFI
      have HFJ := Lib.hid HFI
      clear HFI hbk4 HO2 kc HB
      go_wp2_with fail
      refine HFJ.out.mono ?_
      rintro e w5 ⟨rfl, hbk5, hgr5⟩
      have kc5 : w5.cell? ⟨w3.heap.size, 0, none⟩ = some (.slice (some ⟨vb, 0, none⟩) (1 + (ins.length + gs.length)) (1 + (ins.length + gs.length))) := (World.cell?_of_block (a := ⟨w3.heap.size, 0, none⟩) (hgr5.block w3.heap.size hsz4 (fun e => by injection e with e; omega))).trans kc4
      have lo5 := lo4.trans (grown_low hgr5 (B := w.heap.size) (by omega) lo4.size)
      have hvl2 : (Em.vals Em.gateT (0 :: ins.map Em.normT) gs).length = 1 + (ins.length + gs.length) := by rw [Em.vals_length, List.length_cons, List.length_map]; omega
      have hrf := right_facts HR.out
      have hqq := HQ.out
      have hlff := hlf.out
      have HTT := three_any (some ⟨vb, 0, none⟩) (1 + (ins.length + gs.length)) (Em.vals Em.gateT (0 :: ins.map Em.normT) gs) l w5 w5.heap.size hbk5.vs (hT.below lo5 hT.sz) (Em.All3.vals (Em.All3.start ins) gs) hlff.1 (by rw [hvl2]; omega) (by rw [hvl2]; omega)
      rw [hvl2] at HTT
      have HTU := Lib.hid HTT
      clear HTT k0 k1 kc4 hvl2 hqq hrf hlff HFJ
      go_wp2_with fail
      refine HTU.out.mono ?_
      rintro e w6 ⟨rfl, rfl⟩
      go_wp2_with fail
      go_ret
      exact ⟨rfl, lo5⟩
end Go.Proofs.YtpbbjklacgkcgaaDoor
