/- Formulas by numbers: make. -/
import Derived.Test.YtlddnejjpekgeaaDoorQaz
set_option linter.unusedSimpArgs false
set_option linter.unusedVariables false
namespace Go.Proofs.YtlddnejjpekgeaaDoor
open Go.RowKit

/-- What is asked of make, so deep. -/
def MakeC (B bl ba bp bm : Nat) (A : Option Addr) (c : Nat) (zs : List Int) (d : Nat) : Prop := ∀ (W : World) (a : Nat) (z : Int), MK W B bl ba bp bm A c zs a → a + 3 * 2 ^ (d + 1) ≤ 400 → z = (d : Int) →
  Calls Tryd.prog 35 #[.int .i64 z, .pointer (some ⟨bp, 0, none⟩), .pointer (some ⟨ba, 0, none⟩), .pointer (some ⟨bl, 0, none⟩), .pointer (some ⟨bm, 0, none⟩)] W fun e w' => ∃ v, e = .returned v ∧ FV w' (fun b => Fr W.heap.size w'.heap.size b ∧ Reg w' b) (Fm.makeS (zs.map Int.toNat) d a).1 v ∧ MK w' B bl ba bp bm A c zs (Fm.makeS (zs.map Int.toNat) d a).2 ∧ RKeep ba W w'
theorem make_eq (zs : List Nat) (d a : Nat) (g : Nat → Fm.F × Nat) (hg : ∀ d', d = d' + 1 → g = Fm.makeS zs d') : Fm.makeS zs d a = (.mk (Fm.kindM zs d a).1 (Fm.nameM zs (Fm.kindM zs d a).1 (Fm.kindM zs d a).2).1 0 (Fm.kidsM g (Fm.kidN (Fm.kindM zs d a).1) (Fm.nameM zs (Fm.kindM zs d a).1 (Fm.kindM zs d a).2).2).1,
    (Fm.kidsM g (Fm.kidN (Fm.kindM zs d a).1) (Fm.nameM zs (Fm.kindM zs d a).1 (Fm.kindM zs d a).2).2).2) := by
  cases d with
  | zero =>
    have h := (Fm.kind_ok zs 0 a).2.2 rfl
    rw [Fm.makeS, kidN_3 (by omega)]
    rfl
  | succ d =>
    rw [hg d rfl, Fm.makeS]
set_option maxRecDepth 10000 in
set_option maxHeartbeats 8000000 in
theorem make_step (B bl ba bp bm : Nat) (A : Option Addr) (c : Nat) (zs : List Int) (d : Nat) (hd6 : d ≤ 6) (ih0 : ∀ d', d' + 1 = d → MakeC B bl ba bp bm A c zs d') : MakeC B bl ba bp bm A c zs d := by
  have ih := Lib.hid ih0
  clear ih0
  intro W a z hM0 hap hz
  subst hz
  have hpp : 3 ≤ 3 * 2 ^ (d + 1) := by have : 1 ≤ 2 ^ (d + 1) := Nat.one_le_two_pow; omega
  have lo1 := lowAlloc W (Obj.cells #[.int .i64 0, .string ⟨#[]⟩, .int .i64 0, .slice none 0 0] 24)
  have hbr1 := Blk.new W 24 #[.int .i64 0, .string ⟨#[]⟩, .int .i64 0, .slice none 0 0]
  have h1 := hM0.below lo1
  have hk1 := (RKeep.refl ba W).below lo1
  clear lo1
  go_enter Tryd.func35, Tryd.ntmps35
  go_upto_region 1 with fail
  generalize W.alloc (Obj.cells #[.int .i64 0, .string ⟨#[]⟩, .int .i64 0, .slice none 0 0] 24) = W1 at *
  have p0 := h1.pb.cell 0
  simp only [List.getElem?_toArray, List.getElem?_cons_zero, List.getElem?_cons_succ] at p0
  have HP := Lib.hid (h1.call (by omega) 18 (by decide) (by decide))
  go_wp2_with fail
  refine HP.out.mono ?_
  rintro e w2 ⟨rfl, h2, hk2, hs2⟩
  clear p0
  have hbr2 := hk2.blkOf hbr1 (by have := hM0.mb.lt; have := hM0.b2; have := hM0.b3; omega)
  have hkT := hk1.trans hk2
  clear HP h1 hk1 hk2 hs2 hbr1
  have hcl := h2.lb.cell 0
  have hca := h2.ab.cell 0
  simp only [List.getElem?_toArray, List.getElem?_cons_zero, List.getElem?_cons_succ] at hcl hca
  have h18 := Fm.pick_lt (zs.map Int.toNat) 18 a (by decide)
  have hLZ : (zs.map Int.toNat).length = zs.length := List.length_map ..
  have HM0 := Lib.hid (make_eq (zs.map Int.toNat) d a)
  by_cases hc : d = 0 ∨ zs.length ≤ a + 1 ∨ 30 < a + 1
  rotate_left
  · have c1 : ((d : Int) == 0) = false := by rw [beq_eq_false_iff_ne]; omega
    have c2 : ¬ (zs.length : Int) ≤ (a : Int) + 1 := by omega
    have c3 : ¬ (30 : Int) < (a : Int) + 1 := by omega
    have HKD : Hid (Fm.kindM (zs.map Int.toNat) d a = (1 + (Fm.pickS (zs.map Int.toNat) 18 a : Int), a + 1)) := by unfold Hid Fm.kindM; rw [hLZ, if_neg hc]
    have hd1 : 0 < Fm.kidN (1 + (Fm.pickS (zs.map Int.toNat) 18 a : Int)) → 1 ≤ d := fun _ => by omega
    have hk18 : 1 ≤ 1 + (Fm.pickS (zs.map Int.toNat) 18 a : Int) ∧ 1 + (Fm.pickS (zs.map Int.toNat) 18 a : Int) ≤ 18 := by omega
    have HE0 : Hid (∀ g, (∀ d', d = d' + 1 → g = Fm.makeS (zs.map Int.toNat) d') → Fm.makeS (zs.map Int.toNat) d a = (.mk (1 + (Fm.pickS (zs.map Int.toNat) 18 a : Int)) (Fm.nameM (zs.map Int.toNat) (1 + (Fm.pickS (zs.map Int.toNat) 18 a : Int)) (a + 1)).1 0 (Fm.kidsM g (Fm.kidN (1 + (Fm.pickS (zs.map Int.toNat) 18 a : Int))) (Fm.nameM (zs.map Int.toNat) (1 + (Fm.pickS (zs.map Int.toNat) 18 a : Int)) (a + 1)).2).1, (Fm.kidsM g (Fm.kidN (1 + (Fm.pickS (zs.map Int.toNat) 18 a : Int))) (Fm.nameM (zs.map Int.toNat) (1 + (Fm.pickS (zs.map Int.toNat) 18 a : Int)) (a + 1)).2).2)) := fun g hg => by
      have := HM0.out g hg
      rw [HKD.out] at this
      exact this
    generalize hpk : Fm.pickS (zs.map Int.toNat) 18 a = p at *
    obtain ⟨k, hk⟩ : ∃ k : Int, 1 + (p : Int) = k := ⟨_, rfl⟩
    rw [hk] at hd1 hk18 HE0
    have ha2 : a + 1 ≤ a + 2 := by omega
    have h3 := h2
    have hk3 := hkT
    have hbr3 := hbr2
    generalize a + 1 = a2 at h3 HE0 ha2
    clear h2 hkT hbr2 HM0 HKD hc hpk hLZ
    go_upto_region 4 with fail
    clear hcl hca
    have lo4 := lowAlloc w2 (Obj.cells #[.int .i64 k, .string ⟨#[]⟩, .int .i64 0, .slice none 0 0] 24)
    have hbh := Blk.new w2 24 #[.int .i64 k, .string ⟨#[]⟩, .int .i64 0, .slice none 0 0]
    have h4 := h3.below lo4
    have hk4 := hk3.below lo4
    have hbr4 := hbr3.below lo4 hbr3.lt
    have hrl : W.heap.size < w2.heap.size := hbr3.lt
    have hmr : bm < W.heap.size := hM0.mb.lt
    clear lo4 h3 hk3 hbr3
    go_upto_region 5 with fail
    generalize hW4 : w2.alloc (Obj.cells #[.int .i64 k, .string ⟨#[]⟩, .int .i64 0, .slice none 0 0] 24) = W4 at *
    have HW4s : Hid (W4.heap.size = w2.heap.size + 1) := by unfold Hid; rw [← hW4]; simp
    generalize w2.heap.size = hb at *
    clear hW4
    by_cases hk3e : k = 3
    · subst hk3e
      have hkk : ((3 : Int) == 3) = true := by decide
      have hkr : kidR 3 = 0 := by decide
      have HKI : Hid (∀ V, Calls Tryd.prog 36 #[.int .i64 3] V fun e w' => e = .returned (.int .i64 0) ∧ V = w') := fun V => by
        have := rkids_any 3 V
        rw [hkr] at this
        exact this
      have hbS := Blk.new W4 9 #[.string ⟨#[113]⟩, .string ⟨#[108, 48]⟩, .string ⟨#[111, 117, 116]⟩, .string ⟨#[108, 49]⟩, .string ⟨#[105, 48]⟩, .string ⟨#[111, 48]⟩, .string ⟨#[97, 45, 98]⟩]
      have loS := lowAlloc W4 (Obj.cells #[.string ⟨#[113]⟩, .string ⟨#[108, 48]⟩, .string ⟨#[111, 117, 116]⟩, .string ⟨#[108, 49]⟩, .string ⟨#[105, 48]⟩, .string ⟨#[111, 48]⟩, .string ⟨#[97, 45, 98]⟩] 9)
      have h5 := h4.below loS
      have hk5 := hk4.below loS
      have hbr5 := hbr4.below loS hbr4.lt
      have hbh5 := hbh.below loS hbh.lt
      have hhS : hb < W4.heap.size := hbh.lt
      have hSs : W4.heap.size < (W4.alloc (Obj.cells #[.string ⟨#[113]⟩, .string ⟨#[108, 48]⟩, .string ⟨#[111, 117, 116]⟩, .string ⟨#[108, 49]⟩, .string ⟨#[105, 48]⟩, .string ⟨#[111, 48]⟩, .string ⟨#[97, 45, 98]⟩] 9)).heap.size := by simp
      have p0 := h5.pb.cell 0
      simp only [List.getElem?_toArray, List.getElem?_cons_zero, List.getElem?_cons_succ] at p0
      clear h4 hk4 hbr4 hbh loS hkr
      go_upto_region 6 with fail
      have HP5 := Lib.hid (h5.call (by omega) 7 (by decide) (by decide))
      go_wp2_with fail
      refine HP5.out.mono ?_
      rintro e w6 ⟨rfl, h6, hk6, hs6⟩
      have hlt7 := Fm.pick_lt (zs.map Int.toNat) 7 a2 (by decide)
      have hbS6 := hk6.blkOf hbS (by have := h6.b2; have := h6.b3; omega)
      have hbr6 := hk6.blkOf hbr5 (by have := h6.b2; have := h6.b3; omega)
      have hbh6 := hk6.blkOf hbh5 (by have := h6.b2; have := h6.b3; omega)
      have hkB := hk5.trans hk6
      have hmk : bm < hb := by omega
      have HNM : Hid (Fm.nameM (zs.map Int.toNat) 3 a2 = (Fm.namesL.getD (Fm.pickS (zs.map Int.toNat) 7 a2) [], a2 + 1)) := by unfold Hid Fm.nameM; rw [if_pos rfl]
      generalize Fm.pickS (zs.map Int.toNat) 7 a2 = p7 at *
      have hix := ixS7 W4.heap.size p7 hlt7
      have hSc : w6.cell? ⟨W4.heap.size, p7, none⟩ = some (.string (bsv (Fm.namesL.getD p7 []))) := by
        rw [hbS6.cell]
        exact names_cell p7 hlt7
      generalize Fm.namesL.getD p7 [] = nm at *
      have e1 := hbh6.cell 1
      have e1f := hbh6.frozen 1
      simp only [List.getElem?_toArray, List.getElem?_cons_zero, List.getElem?_cons_succ] at e1
      have hbhX : Blk (w6.setCell ⟨hb, 1, none⟩ (.string (bsv nm))) hb 24 #[.int .i64 3, .string (bsv nm), .int .i64 0, .slice none 0 0] := by simpa using hbh6.put 1 (.string (bsv nm))
      have hMX := h6.far (p := ⟨hb, 1, none⟩) hmk (.string (bsv nm))
      have hkX := hkB.far (p := ⟨hb, 1, none⟩) (by simp only; omega) (.string (bsv nm))
      have hbrX := hbr6.far (p := ⟨hb, 1, none⟩) (by simp only; omega) (.string (bsv nm))
      clear h5 hk5 hbr5 hbh5 hbS hbS6 HP5 hk6 hbr6 hbh6 hkB hs6 h6 p0
      go_upto_region 7 with fail
      generalize w6.setCell ⟨hb, 1, none⟩ (.string (bsv nm)) = W7 at *
      clear hSc e1 e1f hix
      go_wp2_with fail
      refine (HKI.out _).mono ?_
      rintro e w8 ⟨rfl, rfl⟩
      have HE : Hid (Fm.makeS (zs.map Int.toNat) d a = (.mk 3 nm 0 [], a2 + 1)) := by
        unfold Hid
        rw [HE0.out (Fm.makeS (zs.map Int.toNat) (d - 1)) (fun d' hd' => by subst hd'; rfl), HNM.out, kidN_3 (by decide)]
        rfl
      have hM := hMX
      have hk := hkX
      have hbr := hbrX
      have hbh := hbhX
      have hF : FV W7 (fun b => W.heap.size < b ∧ b < W7.heap.size ∧ Reg W7 b) (.mk 3 nm 0 []) (.agg #[.int .i64 3, .string (bsv nm), .int .i64 0, .slice none 0 0]) := FV.mk (A := none) (c := 0) (FL.nil _ _ _ _)
      clear hMX hkX hbrX hbhX HE0 HNM
      go_wp2
      go_loopw [9] (fun i wr => i = .int .i64 0 ∧ W7 = wr) (fun _ _ => 0)
      case atStart => exact ⟨rfl, rfl⟩
      case round =>
        obtain ⟨rfl, rfl⟩ := hrel
        have hKn : ¬ (W.heap.size < W.heap.size ∧ W.heap.size < W7.heap.size ∧ Reg W7 W.heap.size) := fun h => by have := h.1; omega
        have hF1 : FV W7 (fun b => W.heap.size < b ∧ b < W7.heap.size ∧ Reg W7 b) _ (.agg #[.int .i64 3, .string (bsv nm), .int .i64 0, .slice none 0 0]) := hF
        have hF9 := (((hF1.far (p := ⟨W.heap.size, 0, none⟩) hKn (.int .i64 3)).far (p := ⟨W.heap.size, 1, none⟩) hKn (.string (bsv nm))).far (p := ⟨W.heap.size, 2, none⟩) hKn (.int .i64 0)).far (p := ⟨W.heap.size, 3, none⟩) hKn (.slice none 0 0)
        have hF9b := hF9.more (K' := fun b => Fr W.heap.size (((((W7).setCell ⟨W.heap.size, 0, none⟩ (.int .i64 3)).setCell ⟨W.heap.size, 1, none⟩ (.string (bsv nm))).setCell ⟨W.heap.size, 2, none⟩ (.int .i64 0)).setCell ⟨W.heap.size, 3, none⟩ (.slice none 0 0)).heap.size b ∧ Reg (((((W7).setCell ⟨W.heap.size, 0, none⟩ (.int .i64 3)).setCell ⟨W.heap.size, 1, none⟩ (.string (bsv nm))).setCell ⟨W.heap.size, 2, none⟩ (.int .i64 0)).setCell ⟨W.heap.size, 3, none⟩ (.slice none 0 0)) b) (fun b hb => ⟨⟨by have := hb.1; omega, by have := hb.2.1; simp; omega⟩, by have := hb.1; exact (((hb.2.2.far (by simp only; omega) _).far (by simp only; omega) _).far (by simp only; omega) _).far (by simp only; omega) _⟩)
        have hM9 : MK (((((W7).setCell ⟨W.heap.size, 0, none⟩ (.int .i64 3)).setCell ⟨W.heap.size, 1, none⟩ (.string (bsv nm))).setCell ⟨W.heap.size, 2, none⟩ (.int .i64 0)).setCell ⟨W.heap.size, 3, none⟩ (.slice none 0 0)) B bl ba bp bm A c zs _ := (((hM.far (p := ⟨W.heap.size, 0, none⟩) hmr (.int .i64 3)).far (p := ⟨W.heap.size, 1, none⟩) hmr (.string (bsv nm))).far (p := ⟨W.heap.size, 2, none⟩) hmr (.int .i64 0)).far (p := ⟨W.heap.size, 3, none⟩) hmr (.slice none 0 0)
        have hk9 : RKeep ba W (((((W7).setCell ⟨W.heap.size, 0, none⟩ (.int .i64 3)).setCell ⟨W.heap.size, 1, none⟩ (.string (bsv nm))).setCell ⟨W.heap.size, 2, none⟩ (.int .i64 0)).setCell ⟨W.heap.size, 3, none⟩ (.slice none 0 0)) := (((hk.far (p := ⟨W.heap.size, 0, none⟩) (Nat.le_refl _) _).far (p := ⟨W.heap.size, 1, none⟩) (Nat.le_refl _) _).far (p := ⟨W.heap.size, 2, none⟩) (Nat.le_refl _) _).far (p := ⟨W.heap.size, 3, none⟩) (Nat.le_refl _) _
        have hC9 : Blk (((((W7).setCell ⟨W.heap.size, 0, none⟩ (.int .i64 3)).setCell ⟨W.heap.size, 1, none⟩ (.string (bsv nm))).setCell ⟨W.heap.size, 2, none⟩ (.int .i64 0)).setCell ⟨W.heap.size, 3, none⟩ (.slice none 0 0)) W.heap.size 24 #[.int .i64 3, .string (bsv nm), .int .i64 0, .slice none 0 0] := by simpa using (((hbr.put 0 (.int .i64 3)).put 1 (.string (bsv nm))).put 2 (.int .i64 0)).put 3 (.slice none 0 0)
        have HC9 := Lib.hid hC9
        have HM9 := Lib.hid hM9
        have HK9 := Lib.hid hk9
        have HF9 := Lib.hid hF9b
        have r0 := hbr.cell 0
        have r1 := hbr.cell 1
        have r2 := hbr.cell 2
        have r3 := hbr.cell 3
        have g0 := hbh.cell 0
        have g1 := hbh.cell 1
        have g2 := hbh.cell 2
        have g3 := hbh.cell 3
        simp only [List.getElem?_toArray, List.getElem?_cons_zero, List.getElem?_cons_succ] at r0 r1 r2 r3 g0 g1 g2 g3
        have q0 := hbr.frozen 0
        have q1 := hbr.frozen 1
        have q2 := hbr.frozen 2
        have q3 := hbr.frozen 3
        clear hF hF1 hF9 hF9b hM hM9 hk hk9 hC9 hbr hbh hKn
        go_wp2
        clear r0 r1 r2 r3 q0 q1 q2 q3 g0 g1 g2 g3
        generalize ((((W7).setCell ⟨W.heap.size, 0, none⟩ (.int .i64 3)).setCell ⟨W.heap.size, 1, none⟩ (.string (bsv nm))).setCell ⟨W.heap.size, 2, none⟩ (.int .i64 0)).setCell ⟨W.heap.size, 3, none⟩ (.slice none 0 0) = V9 at *
        have t0 := HC9.out.cell 0
        have t1 := HC9.out.cell 1
        have t2 := HC9.out.cell 2
        have t3 := HC9.out.cell 3
        simp only [List.getElem?_toArray, List.getElem?_cons_zero, List.getElem?_cons_succ] at t0 t1 t2 t3
        refine bodyPost_ret (v := .agg #[.int .i64 3, .string (bsv nm), .int .i64 0, .slice none 0 0]) (by simp [results, Tryd.results35, go_sem, t0, t1, t2, t3]) rfl ?_
        rw [HE.out]
        exact ⟨_, rfl, HF9.out, HM9.out, HK9.out⟩
    · have hkk : (k == 3) = false := by rw [beq_eq_false_iff_ne]; exact hk3e
      have HNM : Hid (Fm.nameM (zs.map Int.toNat) k a2 = ([], a2)) := name_other _ _ hk3e
      have hn2 := kidN_le k
      have hkr : kidR k = (Fm.kidN k : Int) := kidR_some hk18.1 hk18.2
      have HKI : Hid (∀ V, Calls Tryd.prog 36 #[.int .i64 k] V fun e w' => e = .returned (.int .i64 (Fm.kidN k : Int)) ∧ V = w') := fun V => by
        have := rkids_any k V
        rw [hkr] at this
        exact this
      have HE1 : Hid (∀ g, (∀ d', d = d' + 1 → g = Fm.makeS (zs.map Int.toNat) d') → Fm.makeS (zs.map Int.toNat) d a = (.mk k [] 0 (Fm.kidsM g (Fm.kidN k) a2).1, (Fm.kidsM g (Fm.kidN k) a2).2)) := fun g hg => by
        have hq := HE0.out g hg
        rw [HNM.out] at hq
        exact hq
      clear HE0 HNM hkr
      generalize Fm.kidN k = n at *
      go_wp2_with fail
      refine (HKI.out _).mono ?_
      rintro e w8 ⟨rfl, rfl⟩
      clear HKI
      have hst : MR W W4 B bl ba bp bm A c zs k (Fm.makeS (zs.map Int.toNat) (d - 1)) a2 hb 0 (.slice none 0 0) [] := ⟨hbh, World.ownsRow_nil W4 _ _ _, trivial, h4, hk4, hbr4, hrl, hmr⟩
      have HST := Lib.hid hst
      have hga : a2 ≤ a + 2 := ha2
      clear hst h4 hk4 hbr4 hbh
      go_wp2
      go_loopw [9] (fun s wr => ∃ (i : Nat) (v : Value) (cs : List Value), i ≤ n ∧ s = .int .i64 ((n : Int) - (i : Int)) ∧ MR W wr B bl ba bp bm A c zs k (Fm.makeS (zs.map Int.toNat) (d - 1)) a2 hb i v cs) (fun s _ => (intOf s).toNat)
      case atStart => exact ⟨0, _, _, Nat.zero_le _, by go_num, HST.out⟩
      case round =>
        obtain ⟨i, v, cs, hi, rfl, hR⟩ := hrel
        obtain ⟨Av, cv, rfl⟩ := row_slice hR.row
        by_cases hlt : i < n
        · have hgt : (0 : Int) < (n : Int) - (i : Int) := by omega
          have hd1' : 1 ≤ d := hd1 (by omega)
          have hRd := hR.drew
          have HSD := Lib.hid (show wr.drew.cell? ⟨bm, 0, none⟩ = some (.func (.func 35) #[] #[.pointer (some ⟨bp, 0, none⟩), .pointer (some ⟨ba, 0, none⟩), .pointer (some ⟨bl, 0, none⟩), .pointer (some ⟨bm, 0, none⟩)]) by simpa using hRd.mq.mb.cell 0)
          have hai := kidsM_pos (Fm.makeS (zs.map Int.toNat) (d - 1)) (3 * 2 ^ (d - 1 + 1) - 3) (fun x => by have := make_pos (zs.map Int.toNat) (d - 1) x; omega) i a2
          have HSM := Lib.hid (fun z hz => ih.out (d - 1) (by omega) wr.drew _ z hRd.mq (by
            have h2 : (2 : Nat) ^ (d + 1) = 2 * 2 ^ (d - 1 + 1) := by rw [show d - 1 + 1 = d by omega, Nat.pow_succ]; omega
            have hpp : 1 ≤ 2 ^ (d - 1 + 1) := Nat.one_le_two_pow
            have him : i * (3 * 2 ^ (d - 1 + 1) - 3) ≤ 1 * (3 * 2 ^ (d - 1 + 1) - 3) := Nat.mul_le_mul_right _ (by omega)
            omega) hz)
          have z3 := hR.hh.cell 3
          simp only [List.getElem?_toArray, List.getElem?_cons_zero, List.getElem?_cons_succ] at z3
          clear hR hai hgt
          go_upto_region 10 with fail
          refine wp_region_held_drew (S := (fun V => V.cell? ⟨bm, 0, none⟩ = some (.func (.func 35) #[] #[.pointer (some ⟨bp, 0, none⟩), .pointer (some ⟨ba, 0, none⟩), .pointer (some ⟨bl, 0, none⟩), .pointer (some ⟨bm, 0, none⟩)]))) (by kernel_rfl) (HSD.out) (fun hHeld => ?_)
          refine wpAnyH_take (i := 0) (oi := ⟨some 45, _, _, _, _, _⟩) (v := ?_) rfl (by kernel_rfl) (by kernel_rfl) (by kernel_rfl) (fun _ _ _ h => h) (Or.inl ⟨by rfl, ?_⟩) hHeld ?_
          rotate_left
          · intro w hSw
            (try dsimp only at hSw)
            obtain hSw := hSw
            first | (go_simp; done) | (go_simp; with_reducible rfl) | with_reducible rfl
          try simp only [Act.put, List.setIfInBounds_toArray, List.set_cons_zero, List.set_cons_succ]
          refine wpAnyH_take (i := 2) (oi := ⟨some 47, _, _, _, _, _⟩) (v := ?_) rfl (by kernel_rfl) (by kernel_rfl) (by kernel_rfl) (fun _ _ _ h => h) (Or.inl ⟨by rfl, ?_⟩) hHeld ?_
          rotate_left
          · intro w hSw
            (try dsimp only at hSw)
            obtain hSw := hSw
            first | (go_simp; done) | (go_simp; with_reducible rfl) | with_reducible rfl
          try simp only [Act.put, List.setIfInBounds_toArray, List.set_cons_zero, List.set_cons_succ]
          refine wpAnyH_take (i := 3) (oi := ⟨some 48, _, _, _, _, _⟩) (v := ?_) rfl (by kernel_rfl) (by kernel_rfl) (by kernel_rfl) (fun _ _ _ h => h) (Or.inl ⟨by rfl, ?_⟩) hHeld ?_
          rotate_left
          · intro w hSw
            (try dsimp only at hSw)
            obtain hSw := hSw
            first | (go_simp; done) | (go_simp; with_reducible rfl) | with_reducible rfl
          try simp only [Act.put, List.setIfInBounds_toArray, List.set_cons_zero, List.set_cons_succ]
          refine wpAnyH_take (i := 4) (oi := ⟨some 49, _, _, _, _, _⟩) (v := ?_) rfl (by kernel_rfl) (by kernel_rfl) (by kernel_rfl) (fun _ _ _ h => h) (Or.inl ⟨by rfl, ?_⟩) hHeld ?_
          rotate_left
          · intro w hSw
            (try dsimp only at hSw)
            obtain hSw := hSw
            first | (go_simp; done) | (go_simp; with_reducible rfl) | with_reducible rfl
          try simp only [Act.put, List.setIfInBounds_toArray, List.set_cons_zero, List.set_cons_succ]
          refine wpAnyH_ready (rs := [1, 5]) (by kernel_rfl) (by simp) ?_
          refine AllReadyH.cons (o := ⟨some 46, _, _, _, _, _⟩) rfl (fun K hK => ?_) ?_
          · skip
            go_simp
            refine hK.out _ _ ?_ (fun hHeld => ?_)
            · exact HSD.out
            clear hK K
            try simp only [Act.put, List.setIfInBounds_toArray, List.set_cons_zero, List.set_cons_succ]
            refine wpAnyH_ready (rs := [5]) (by kernel_rfl) (by simp) ?_
            refine AllReadyH.cons (o := ⟨some 50, _, _, _, _, _⟩) rfl (fun K hK => ?_) AllReadyH.nil
            go_simp
            refine (HSM.out _ (by first | omega | (simp only [IntKind.wrap_i64]; omega))).mono ?_
            rintro e w3 ⟨u, rfl, hG3, hM3, hk3⟩
            obtain ⟨k2, s2, l2, A2, n2, c2, rfl⟩ := hG3.four
            have hb3 := hk3.blkOf hRd.hh hRd.neb
            have z3 := hb3.cell 3
            simp only [List.getElem?_toArray, List.getElem?_cons_zero, List.getElem?_cons_succ] at z3
            refine hK.out _ _ ?_ (fun hHeld => ?_)
            · exact (by simpa using hM3.mb.cell 0)
            clear hK K
            try simp only [Act.put, List.setIfInBounds_toArray, List.set_cons_zero, List.set_cons_succ]
            refine wpAnyH_ready (rs := [6]) (by kernel_rfl) (by simp) ?_
            refine AllReadyH.cons (o := ⟨some 51, _, _, _, _, _⟩) rfl (fun K hK => ?_) AllReadyH.nil
            go_simp
            have hb8 : Blk (w3.alloc (Obj.cells #[.int .i64 k2, .string s2, .int .i64 l2, .slice A2 n2 c2] 24)) w3.heap.size 24 #[.int .i64 k2, .string s2, .int .i64 l2, .slice A2 n2 c2] := Blk.new w3 24 #[.int .i64 k2, .string s2, .int .i64 l2, .slice A2 n2 c2]
            have hM4 := hM3.below (lowAlloc w3 (Obj.cells #[.int .i64 k2, .string s2, .int .i64 l2, .slice A2 n2 c2] 24))
            have hb4 := hb3.below (lowAlloc w3 (Obj.cells #[.int .i64 k2, .string s2, .int .i64 l2, .slice A2 n2 c2] 24)) hb3.lt
            have hrow4 := World.ownsRow.alloc (row_rk hRd.row hk3 hRd.ltb) (Obj.cells #[.int .i64 k2, .string s2, .int .i64 l2, .slice A2 n2 c2] 24)
            have hs4 : hb + 1 ≤ (w3.alloc (Obj.cells #[.int .i64 k2, .string s2, .int .i64 l2, .slice A2 n2 c2] 24)).heap.size := by have := hb4.lt; omega
            have z3 := hb4.cell 3
            simp only [List.getElem?_toArray, List.getElem?_cons_zero, List.getElem?_cons_succ] at z3
            generalize hW4 : w3.alloc (Obj.cells #[.int .i64 k2, .string s2, .int .i64 l2, .slice A2 n2 c2] 24) = W4 at *
            have HW4 := Lib.hid hW4
            clear hW4
            refine hK.out _ _ ?_ (fun hHeld => ?_)
            · exact (by simpa using hM4.mb.cell 0)
            clear hK K
            try simp only [Act.put, List.setIfInBounds_toArray, List.set_cons_zero, List.set_cons_succ]
            refine wpAnyH_ready (rs := [7]) (by kernel_rfl) (by simp) ?_
            refine AllReadyH.cons (o := ⟨some 52, _, _, _, _, _⟩) rfl (fun K hK => ?_) AllReadyH.nil
            rw [if_pos (by rfl)]
            refine oper_app (.tmp 46) (.tmp 51) 22 rfl (.slice Av i cv) (.slice (some ⟨w3.heap.size, 0, none⟩) 1 1) rfl rfl (fun v' w' => w'.ownsRow (hb + 1) 24 4 v' (i + 1) (cs ++ [.int .i64 k2, .string s2, .int .i64 l2, .slice A2 n2 c2]) ∧ W4.grownBy w' (Value.slice Av i cv).ownBlock ∧ (v'.ownBlock = (Value.slice Av i cv).ownBlock ∨ v'.ownBlock = some W4.heap.size)) (fun ty => (by obtain ⟨v', w', r1, r2, r3, r4⟩ := app_form W4 (hb + 1) ty (.slice Av i cv) i cs hrow4 w3.heap.size 1 k2 s2 l2 A2 n2 c2 hb8 (by omega) hs4; exact ⟨v', w', r1, r2, r3, r4⟩)) ?_
            intro v' w5 hR5
            obtain ⟨A5, c5, rfl⟩ := row_slice hR5.1
            have hlt5 : bm < hb := hRd.ltm
            have hM5 := hM4.grown hR5.2.1 (fun k e => by have := row_base hrow4 k e; omega)
            have hb5 := hb4.grown hR5.2.1 (fun e => by have := row_base hrow4 _ e.symm; omega)
            have c3 := hb5.cell 3
            have f3 := hb5.frozen 3
            simp only [List.getElem?_toArray, List.getElem?_cons_zero, List.getElem?_cons_succ] at c3
            refine hK.out _ _ ?_ (fun hHeld => ?_)
            · exact (by simpa using hM5.mb.cell 0)
            clear hK K
            try simp only [Act.put, List.setIfInBounds_toArray, List.set_cons_zero, List.set_cons_succ]
            refine wpAnyH_take (i := 8) (oi := ⟨some 53, _, _, _, _, _⟩) (v := ?_) rfl (by kernel_rfl) (by kernel_rfl) (by kernel_rfl) (fun _ _ _ h => h) (Or.inl ⟨by rfl, ?_⟩) hHeld ?_
            rotate_left
            · intro w hSw
              (try dsimp only at hSw)
              obtain hSw := hSw
              first | (go_simp; done) | (go_simp; with_reducible rfl) | with_reducible rfl
            try simp only [Act.put, List.setIfInBounds_toArray, List.set_cons_zero, List.set_cons_succ]
            refine wpAnyH_ready (rs := [9]) (by kernel_rfl) (by simp) ?_
            refine AllReadyH.cons (o := ⟨none, _, _, _, _, _⟩) rfl (fun K hK => ?_) AllReadyH.nil
            go_simp
            have hM6 := hM5.far (p := ⟨hb, 3, none⟩) hlt5 (.slice A5 (i + 1) c5)
            have HN := MR.next hRd hk3 hG3 hM3 HW4.out hR5.1 hR5.2.1 hR5.2.2
            refine hK.out _ _ ?_ (fun hHeld => ?_)
            · exact (by simpa using hM6.mb.cell 0)
            clear hK K
            try simp only [Act.put, List.setIfInBounds_toArray, List.set_cons_zero, List.set_cons_succ]
            refine wpAnyH_done (by kernel_rfl) ?_ _
            clear z3 c3 f3 hM6 hM5 hb5 hR5
            generalize w5.setCell ⟨hb, 3, none⟩ (.slice A5 (i + 1) c5) = w6 at *
            go_wp2
            go_roundw
            case rel => exact ⟨i + 1, _, _, by omega, by go_num, HN⟩
            case measure => simp [intOf]; omega
          refine AllReadyH.cons (o := ⟨some 50, _, _, _, _, _⟩) rfl (fun K hK => ?_) AllReadyH.nil
          go_simp
          refine (HSM.out _ (by first | omega | (simp only [IntKind.wrap_i64]; omega))).mono ?_
          rintro e w3 ⟨u, rfl, hG3, hM3, hk3⟩
          obtain ⟨k2, s2, l2, A2, n2, c2, rfl⟩ := hG3.four
          have hb3 := hk3.blkOf hRd.hh hRd.neb
          have z3 := hb3.cell 3
          simp only [List.getElem?_toArray, List.getElem?_cons_zero, List.getElem?_cons_succ] at z3
          refine hK.out _ _ ?_ (fun hHeld => ?_)
          · exact (by simpa using hM3.mb.cell 0)
          clear hK K
          try simp only [Act.put, List.setIfInBounds_toArray, List.set_cons_zero, List.set_cons_succ]
          refine wpAnyH_ready (rs := [1, 6]) (by kernel_rfl) (by simp) ?_
          refine AllReadyH.cons (o := ⟨some 46, _, _, _, _, _⟩) rfl (fun K hK => ?_) ?_
          · skip
            go_simp
            refine hK.out _ _ ?_ (fun hHeld => ?_)
            · exact (by simpa using hM3.mb.cell 0)
            clear hK K
            try simp only [Act.put, List.setIfInBounds_toArray, List.set_cons_zero, List.set_cons_succ]
            refine wpAnyH_ready (rs := [6]) (by kernel_rfl) (by simp) ?_
            refine AllReadyH.cons (o := ⟨some 51, _, _, _, _, _⟩) rfl (fun K hK => ?_) AllReadyH.nil
            go_simp
            have hb8 : Blk (w3.alloc (Obj.cells #[.int .i64 k2, .string s2, .int .i64 l2, .slice A2 n2 c2] 24)) w3.heap.size 24 #[.int .i64 k2, .string s2, .int .i64 l2, .slice A2 n2 c2] := Blk.new w3 24 #[.int .i64 k2, .string s2, .int .i64 l2, .slice A2 n2 c2]
            have hM4 := hM3.below (lowAlloc w3 (Obj.cells #[.int .i64 k2, .string s2, .int .i64 l2, .slice A2 n2 c2] 24))
            have hb4 := hb3.below (lowAlloc w3 (Obj.cells #[.int .i64 k2, .string s2, .int .i64 l2, .slice A2 n2 c2] 24)) hb3.lt
            have hrow4 := World.ownsRow.alloc (row_rk hRd.row hk3 hRd.ltb) (Obj.cells #[.int .i64 k2, .string s2, .int .i64 l2, .slice A2 n2 c2] 24)
            have hs4 : hb + 1 ≤ (w3.alloc (Obj.cells #[.int .i64 k2, .string s2, .int .i64 l2, .slice A2 n2 c2] 24)).heap.size := by have := hb4.lt; omega
            have z3 := hb4.cell 3
            simp only [List.getElem?_toArray, List.getElem?_cons_zero, List.getElem?_cons_succ] at z3
            generalize hW4 : w3.alloc (Obj.cells #[.int .i64 k2, .string s2, .int .i64 l2, .slice A2 n2 c2] 24) = W4 at *
            have HW4 := Lib.hid hW4
            clear hW4
            refine hK.out _ _ ?_ (fun hHeld => ?_)
            · exact (by simpa using hM4.mb.cell 0)
            clear hK K
            try simp only [Act.put, List.setIfInBounds_toArray, List.set_cons_zero, List.set_cons_succ]
            refine wpAnyH_ready (rs := [7]) (by kernel_rfl) (by simp) ?_
            refine AllReadyH.cons (o := ⟨some 52, _, _, _, _, _⟩) rfl (fun K hK => ?_) AllReadyH.nil
            rw [if_pos (by rfl)]
            refine oper_app (.tmp 46) (.tmp 51) 22 rfl (.slice Av i cv) (.slice (some ⟨w3.heap.size, 0, none⟩) 1 1) rfl rfl (fun v' w' => w'.ownsRow (hb + 1) 24 4 v' (i + 1) (cs ++ [.int .i64 k2, .string s2, .int .i64 l2, .slice A2 n2 c2]) ∧ W4.grownBy w' (Value.slice Av i cv).ownBlock ∧ (v'.ownBlock = (Value.slice Av i cv).ownBlock ∨ v'.ownBlock = some W4.heap.size)) (fun ty => (by obtain ⟨v', w', r1, r2, r3, r4⟩ := app_form W4 (hb + 1) ty (.slice Av i cv) i cs hrow4 w3.heap.size 1 k2 s2 l2 A2 n2 c2 hb8 (by omega) hs4; exact ⟨v', w', r1, r2, r3, r4⟩)) ?_
            intro v' w5 hR5
            obtain ⟨A5, c5, rfl⟩ := row_slice hR5.1
            have hlt5 : bm < hb := hRd.ltm
            have hM5 := hM4.grown hR5.2.1 (fun k e => by have := row_base hrow4 k e; omega)
            have hb5 := hb4.grown hR5.2.1 (fun e => by have := row_base hrow4 _ e.symm; omega)
            have c3 := hb5.cell 3
            have f3 := hb5.frozen 3
            simp only [List.getElem?_toArray, List.getElem?_cons_zero, List.getElem?_cons_succ] at c3
            refine hK.out _ _ ?_ (fun hHeld => ?_)
            · exact (by simpa using hM5.mb.cell 0)
            clear hK K
            try simp only [Act.put, List.setIfInBounds_toArray, List.set_cons_zero, List.set_cons_succ]
            refine wpAnyH_take (i := 8) (oi := ⟨some 53, _, _, _, _, _⟩) (v := ?_) rfl (by kernel_rfl) (by kernel_rfl) (by kernel_rfl) (fun _ _ _ h => h) (Or.inl ⟨by rfl, ?_⟩) hHeld ?_
            rotate_left
            · intro w hSw
              (try dsimp only at hSw)
              obtain hSw := hSw
              first | (go_simp; done) | (go_simp; with_reducible rfl) | with_reducible rfl
            try simp only [Act.put, List.setIfInBounds_toArray, List.set_cons_zero, List.set_cons_succ]
            refine wpAnyH_ready (rs := [9]) (by kernel_rfl) (by simp) ?_
            refine AllReadyH.cons (o := ⟨none, _, _, _, _, _⟩) rfl (fun K hK => ?_) AllReadyH.nil
            go_simp
            have hM6 := hM5.far (p := ⟨hb, 3, none⟩) hlt5 (.slice A5 (i + 1) c5)
            have HN := MR.next hRd hk3 hG3 hM3 HW4.out hR5.1 hR5.2.1 hR5.2.2
            refine hK.out _ _ ?_ (fun hHeld => ?_)
            · exact (by simpa using hM6.mb.cell 0)
            clear hK K
            try simp only [Act.put, List.setIfInBounds_toArray, List.set_cons_zero, List.set_cons_succ]
            refine wpAnyH_done (by kernel_rfl) ?_ _
            clear z3 c3 f3 hM6 hM5 hb5 hR5
            generalize w5.setCell ⟨hb, 3, none⟩ (.slice A5 (i + 1) c5) = w6 at *
            go_wp2
            go_roundw
            case rel => exact ⟨i + 1, _, _, by omega, by go_num, HN⟩
            case measure => simp [intOf]; omega
          refine AllReadyH.cons (o := ⟨some 51, _, _, _, _, _⟩) rfl (fun K hK => ?_) AllReadyH.nil
          go_simp
          have hb8 : Blk (w3.alloc (Obj.cells #[.int .i64 k2, .string s2, .int .i64 l2, .slice A2 n2 c2] 24)) w3.heap.size 24 #[.int .i64 k2, .string s2, .int .i64 l2, .slice A2 n2 c2] := Blk.new w3 24 #[.int .i64 k2, .string s2, .int .i64 l2, .slice A2 n2 c2]
          have hM4 := hM3.below (lowAlloc w3 (Obj.cells #[.int .i64 k2, .string s2, .int .i64 l2, .slice A2 n2 c2] 24))
          have hb4 := hb3.below (lowAlloc w3 (Obj.cells #[.int .i64 k2, .string s2, .int .i64 l2, .slice A2 n2 c2] 24)) hb3.lt
          have hrow4 := World.ownsRow.alloc (row_rk hRd.row hk3 hRd.ltb) (Obj.cells #[.int .i64 k2, .string s2, .int .i64 l2, .slice A2 n2 c2] 24)
          have hs4 : hb + 1 ≤ (w3.alloc (Obj.cells #[.int .i64 k2, .string s2, .int .i64 l2, .slice A2 n2 c2] 24)).heap.size := by have := hb4.lt; omega
          have z3 := hb4.cell 3
          simp only [List.getElem?_toArray, List.getElem?_cons_zero, List.getElem?_cons_succ] at z3
          generalize hW4 : w3.alloc (Obj.cells #[.int .i64 k2, .string s2, .int .i64 l2, .slice A2 n2 c2] 24) = W4 at *
          have HW4 := Lib.hid hW4
          clear hW4
          refine hK.out _ _ ?_ (fun hHeld => ?_)
          · exact (by simpa using hM4.mb.cell 0)
          clear hK K
          try simp only [Act.put, List.setIfInBounds_toArray, List.set_cons_zero, List.set_cons_succ]
          refine wpAnyH_ready (rs := [1]) (by kernel_rfl) (by simp) ?_
          refine AllReadyH.cons (o := ⟨some 46, _, _, _, _, _⟩) rfl (fun K hK => ?_) AllReadyH.nil
          go_simp
          refine hK.out _ _ ?_ (fun hHeld => ?_)
          · exact (by simpa using hM4.mb.cell 0)
          clear hK K
          try simp only [Act.put, List.setIfInBounds_toArray, List.set_cons_zero, List.set_cons_succ]
          refine wpAnyH_ready (rs := [7]) (by kernel_rfl) (by simp) ?_
          refine AllReadyH.cons (o := ⟨some 52, _, _, _, _, _⟩) rfl (fun K hK => ?_) AllReadyH.nil
          rw [if_pos (by rfl)]
          refine oper_app (.tmp 46) (.tmp 51) 22 rfl (.slice Av i cv) (.slice (some ⟨w3.heap.size, 0, none⟩) 1 1) rfl rfl (fun v' w' => w'.ownsRow (hb + 1) 24 4 v' (i + 1) (cs ++ [.int .i64 k2, .string s2, .int .i64 l2, .slice A2 n2 c2]) ∧ W4.grownBy w' (Value.slice Av i cv).ownBlock ∧ (v'.ownBlock = (Value.slice Av i cv).ownBlock ∨ v'.ownBlock = some W4.heap.size)) (fun ty => (by obtain ⟨v', w', r1, r2, r3, r4⟩ := app_form W4 (hb + 1) ty (.slice Av i cv) i cs hrow4 w3.heap.size 1 k2 s2 l2 A2 n2 c2 hb8 (by omega) hs4; exact ⟨v', w', r1, r2, r3, r4⟩)) ?_
          intro v' w5 hR5
          obtain ⟨A5, c5, rfl⟩ := row_slice hR5.1
          have hlt5 : bm < hb := hRd.ltm
          have hM5 := hM4.grown hR5.2.1 (fun k e => by have := row_base hrow4 k e; omega)
          have hb5 := hb4.grown hR5.2.1 (fun e => by have := row_base hrow4 _ e.symm; omega)
          have c3 := hb5.cell 3
          have f3 := hb5.frozen 3
          simp only [List.getElem?_toArray, List.getElem?_cons_zero, List.getElem?_cons_succ] at c3
          refine hK.out _ _ ?_ (fun hHeld => ?_)
          · exact (by simpa using hM5.mb.cell 0)
          clear hK K
          try simp only [Act.put, List.setIfInBounds_toArray, List.set_cons_zero, List.set_cons_succ]
          refine wpAnyH_take (i := 8) (oi := ⟨some 53, _, _, _, _, _⟩) (v := ?_) rfl (by kernel_rfl) (by kernel_rfl) (by kernel_rfl) (fun _ _ _ h => h) (Or.inl ⟨by rfl, ?_⟩) hHeld ?_
          rotate_left
          · intro w hSw
            (try dsimp only at hSw)
            obtain hSw := hSw
            first | (go_simp; done) | (go_simp; with_reducible rfl) | with_reducible rfl
          try simp only [Act.put, List.setIfInBounds_toArray, List.set_cons_zero, List.set_cons_succ]
          refine wpAnyH_ready (rs := [9]) (by kernel_rfl) (by simp) ?_
          refine AllReadyH.cons (o := ⟨none, _, _, _, _, _⟩) rfl (fun K hK => ?_) AllReadyH.nil
          go_simp
          have hM6 := hM5.far (p := ⟨hb, 3, none⟩) hlt5 (.slice A5 (i + 1) c5)
          have HN := MR.next hRd hk3 hG3 hM3 HW4.out hR5.1 hR5.2.1 hR5.2.2
          refine hK.out _ _ ?_ (fun hHeld => ?_)
          · exact (by simpa using hM6.mb.cell 0)
          clear hK K
          try simp only [Act.put, List.setIfInBounds_toArray, List.set_cons_zero, List.set_cons_succ]
          refine wpAnyH_done (by kernel_rfl) ?_ _
          clear z3 c3 f3 hM6 hM5 hb5 hR5
          generalize w5.setCell ⟨hb, 3, none⟩ (.slice A5 (i + 1) c5) = w6 at *
          go_wp2
          go_roundw
          case rel => exact ⟨i + 1, _, _, by omega, by go_num, HN⟩
          case measure => simp [intOf]; omega
        · obtain rfl : i = n := by omega
          have hz0 : ((i : Int) - (i : Int)) = 0 := by omega
          have HE : Hid (Fm.makeS (zs.map Int.toNat) d a = (.mk k [] 0 (Fm.kidsM (Fm.makeS (zs.map Int.toNat) (d - 1)) i a2).1, (Fm.kidsM (Fm.makeS (zs.map Int.toNat) (d - 1)) i a2).2)) := HE1.out _ (fun d' hd' => by subst hd'; rfl)
          have hlen := Fm.kids_len (Fm.makeS (zs.map Int.toNat) (d - 1)) i a2
          obtain ⟨Ar, cr, hve, hFL⟩ := KCs.row hR.row hR.ks hlen (K' := fun b => W.heap.size < b ∧ b < wr.heap.size ∧ Reg wr b) (fun b hb => ⟨by have := hb.1; omega, hb.2.1, hb.2.2.2⟩) (fun g hg hgr => ⟨by have := row_base hR.row g hg; omega, hgr.lt, hgr⟩)
          injection hve with e1 e2 e3
          subst e1 e3
          have hF : FV wr (fun b => W.heap.size < b ∧ b < wr.heap.size ∧ Reg wr b) (.mk k [] 0 (Fm.kidsM (Fm.makeS (zs.map Int.toNat) (d - 1)) i a2).1) (.agg #[.int .i64 k, .string ⟨#[]⟩, .int .i64 0, .slice Av i cv]) := by
            have := FV.mk (k := k) (nm := []) (lit := 0) (c := cv) hFL
            rw [hlen] at this
            exact this
          have hM := hR.mq
          have hk := hR.rk
          have hbr := hR.rb
          have hbh := hR.hh
          clear hR hFL hlen
          have hKn : ¬ (W.heap.size < W.heap.size ∧ W.heap.size < wr.heap.size ∧ Reg wr W.heap.size) := fun h => by have := h.1; omega
          have hF1 : FV wr (fun b => W.heap.size < b ∧ b < wr.heap.size ∧ Reg wr b) _ (.agg #[.int .i64 k, .string ⟨#[]⟩, .int .i64 0, .slice Av i cv]) := hF
          have hF9 := (((hF1.far (p := ⟨W.heap.size, 0, none⟩) hKn (.int .i64 k)).far (p := ⟨W.heap.size, 1, none⟩) hKn (.string ⟨#[]⟩)).far (p := ⟨W.heap.size, 2, none⟩) hKn (.int .i64 0)).far (p := ⟨W.heap.size, 3, none⟩) hKn (.slice Av i cv)
          have hF9b := hF9.more (K' := fun b => Fr W.heap.size (((((wr).setCell ⟨W.heap.size, 0, none⟩ (.int .i64 k)).setCell ⟨W.heap.size, 1, none⟩ (.string ⟨#[]⟩)).setCell ⟨W.heap.size, 2, none⟩ (.int .i64 0)).setCell ⟨W.heap.size, 3, none⟩ (.slice Av i cv)).heap.size b ∧ Reg (((((wr).setCell ⟨W.heap.size, 0, none⟩ (.int .i64 k)).setCell ⟨W.heap.size, 1, none⟩ (.string ⟨#[]⟩)).setCell ⟨W.heap.size, 2, none⟩ (.int .i64 0)).setCell ⟨W.heap.size, 3, none⟩ (.slice Av i cv)) b) (fun b hb => ⟨⟨by have := hb.1; omega, by have := hb.2.1; simp; omega⟩, by have := hb.1; exact (((hb.2.2.far (by simp only; omega) _).far (by simp only; omega) _).far (by simp only; omega) _).far (by simp only; omega) _⟩)
          have hM9 : MK (((((wr).setCell ⟨W.heap.size, 0, none⟩ (.int .i64 k)).setCell ⟨W.heap.size, 1, none⟩ (.string ⟨#[]⟩)).setCell ⟨W.heap.size, 2, none⟩ (.int .i64 0)).setCell ⟨W.heap.size, 3, none⟩ (.slice Av i cv)) B bl ba bp bm A c zs _ := (((hM.far (p := ⟨W.heap.size, 0, none⟩) hmr (.int .i64 k)).far (p := ⟨W.heap.size, 1, none⟩) hmr (.string ⟨#[]⟩)).far (p := ⟨W.heap.size, 2, none⟩) hmr (.int .i64 0)).far (p := ⟨W.heap.size, 3, none⟩) hmr (.slice Av i cv)
          have hk9 : RKeep ba W (((((wr).setCell ⟨W.heap.size, 0, none⟩ (.int .i64 k)).setCell ⟨W.heap.size, 1, none⟩ (.string ⟨#[]⟩)).setCell ⟨W.heap.size, 2, none⟩ (.int .i64 0)).setCell ⟨W.heap.size, 3, none⟩ (.slice Av i cv)) := (((hk.far (p := ⟨W.heap.size, 0, none⟩) (Nat.le_refl _) _).far (p := ⟨W.heap.size, 1, none⟩) (Nat.le_refl _) _).far (p := ⟨W.heap.size, 2, none⟩) (Nat.le_refl _) _).far (p := ⟨W.heap.size, 3, none⟩) (Nat.le_refl _) _
          have hC9 : Blk (((((wr).setCell ⟨W.heap.size, 0, none⟩ (.int .i64 k)).setCell ⟨W.heap.size, 1, none⟩ (.string ⟨#[]⟩)).setCell ⟨W.heap.size, 2, none⟩ (.int .i64 0)).setCell ⟨W.heap.size, 3, none⟩ (.slice Av i cv)) W.heap.size 24 #[.int .i64 k, .string ⟨#[]⟩, .int .i64 0, .slice Av i cv] := by simpa using (((hbr.put 0 (.int .i64 k)).put 1 (.string ⟨#[]⟩)).put 2 (.int .i64 0)).put 3 (.slice Av i cv)
          have HC9 := Lib.hid hC9
          have HM9 := Lib.hid hM9
          have HK9 := Lib.hid hk9
          have HF9 := Lib.hid hF9b
          have r0 := hbr.cell 0
          have r1 := hbr.cell 1
          have r2 := hbr.cell 2
          have r3 := hbr.cell 3
          have g0 := hbh.cell 0
          have g1 := hbh.cell 1
          have g2 := hbh.cell 2
          have g3 := hbh.cell 3
          simp only [List.getElem?_toArray, List.getElem?_cons_zero, List.getElem?_cons_succ] at r0 r1 r2 r3 g0 g1 g2 g3
          have q0 := hbr.frozen 0
          have q1 := hbr.frozen 1
          have q2 := hbr.frozen 2
          have q3 := hbr.frozen 3
          clear hF hF1 hF9 hF9b hM hM9 hk hk9 hC9 hbr hbh hKn
          go_wp2
          clear r0 r1 r2 r3 q0 q1 q2 q3 g0 g1 g2 g3
          generalize ((((wr).setCell ⟨W.heap.size, 0, none⟩ (.int .i64 k)).setCell ⟨W.heap.size, 1, none⟩ (.string ⟨#[]⟩)).setCell ⟨W.heap.size, 2, none⟩ (.int .i64 0)).setCell ⟨W.heap.size, 3, none⟩ (.slice Av i cv) = V9 at *
          have t0 := HC9.out.cell 0
          have t1 := HC9.out.cell 1
          have t2 := HC9.out.cell 2
          have t3 := HC9.out.cell 3
          simp only [List.getElem?_toArray, List.getElem?_cons_zero, List.getElem?_cons_succ] at t0 t1 t2 t3
          refine bodyPost_ret (v := .agg #[.int .i64 k, .string ⟨#[]⟩, .int .i64 0, .slice Av i cv]) (by simp [results, Tryd.results35, go_sem, t0, t1, t2, t3]) rfl ?_
          rw [HE.out]
          exact ⟨_, rfl, HF9.out, HM9.out, HK9.out⟩
  · have HKD : Hid (Fm.kindM (zs.map Int.toNat) d a = (3 - ((Fm.pickS (zs.map Int.toNat) 7 (a + 1) / 5 : Nat) : Int), a + 2)) := by unfold Hid Fm.kindM; rw [hLZ, if_pos hc]
    have h7 := Fm.pick_lt (zs.map Int.toNat) 7 (a + 1) (by decide)
    have hk18 : 1 ≤ 3 - ((Fm.pickS (zs.map Int.toNat) 7 (a + 1) / 5 : Nat) : Int) ∧ 3 - ((Fm.pickS (zs.map Int.toNat) 7 (a + 1) / 5 : Nat) : Int) ≤ 18 := by omega
    have hd1 : 0 < Fm.kidN (3 - ((Fm.pickS (zs.map Int.toNat) 7 (a + 1) / 5 : Nat) : Int)) → 1 ≤ d := fun h => by rw [kidN_3 (by omega)] at h; omega
    have HE0 : Hid (∀ g, (∀ d', d = d' + 1 → g = Fm.makeS (zs.map Int.toNat) d') → Fm.makeS (zs.map Int.toNat) d a = (.mk (3 - ((Fm.pickS (zs.map Int.toNat) 7 (a + 1) / 5 : Nat) : Int)) (Fm.nameM (zs.map Int.toNat) (3 - ((Fm.pickS (zs.map Int.toNat) 7 (a + 1) / 5 : Nat) : Int)) (a + 2)).1 0 (Fm.kidsM g (Fm.kidN (3 - ((Fm.pickS (zs.map Int.toNat) 7 (a + 1) / 5 : Nat) : Int))) (Fm.nameM (zs.map Int.toNat) (3 - ((Fm.pickS (zs.map Int.toNat) 7 (a + 1) / 5 : Nat) : Int)) (a + 2)).2).1, (Fm.kidsM g (Fm.kidN (3 - ((Fm.pickS (zs.map Int.toNat) 7 (a + 1) / 5 : Nat) : Int))) (Fm.nameM (zs.map Int.toNat) (3 - ((Fm.pickS (zs.map Int.toNat) 7 (a + 1) / 5 : Nat) : Int)) (a + 2)).2).2)) := fun g hg => by
      have := HM0.out g hg
      rw [HKD.out] at this
      exact this
    have p0 := h2.pb.cell 0
    simp only [List.getElem?_toArray, List.getElem?_cons_zero, List.getElem?_cons_succ] at p0
    have HP := Lib.hid (h2.call (by omega) 7 (by decide) (by decide))
    have hne : W.heap.size ≠ ba := by have := hM0.mb.lt; have := hM0.b2; have := hM0.b3; omega
    generalize Fm.pickS (zs.map Int.toNat) 18 a = p18 at *
    have HTT : Hid (d = 0 ∨ (d ≠ 0 ∧ zs.length ≤ a + 1) ∨ (d ≠ 0 ∧ ¬ zs.length ≤ a + 1 ∧ 30 < a + 1)) := by unfold Hid; omega
    clear HM0 HKD hc hLZ
    rcases HTT.out with c0 | ⟨c0, c2⟩ | ⟨c0, c2, c3⟩
    · have c1 : ((d : Int) == 0) = true := by rw [beq_iff_eq]; omega
      go_wp2_with fail
      refine HP.out.mono ?_
      rintro e w3 ⟨rfl, h3, hkx, hs3⟩
      have hbr3 := hkx.blkOf hbr2 hne
      have hk3 := hkT.trans hkx
      clear HP h2 hkx hs3 hbr2 hkT p0
      generalize hpk : Fm.pickS (zs.map Int.toNat) 7 (a + 1) = p7 at *
      have hq1 : ((p7 : Int).tdiv 5) = ((p7 / 5 : Nat) : Int) := by rw [Int.tdiv_eq_ediv_of_nonneg (by omega)]; omega
      have hq2 : ((p7 : Int) / 5) = ((p7 / 5 : Nat) : Int) := by omega
      generalize hq7 : p7 / 5 = q7 at *
      obtain ⟨k, hk⟩ : ∃ k : Int, 3 - (q7 : Int) = k := ⟨_, rfl⟩
      rw [hk] at hd1 hk18 HE0
      have hq8 : q7 ≤ 1 := by omega
      have hkf : k = 2 ∨ k = 3 := by omega
      have ha2 : a + 2 ≤ 402 := by omega
      rw [show a + 1 + 1 = a + 2 from rfl] at h3
      generalize a + 2 = a2 at h3 HE0 ha2
      clear hpk hq7 HTT
      go_upto_region 4 with fail
      clear hcl hca
      have lo4 := lowAlloc w3 (Obj.cells #[.int .i64 k, .string ⟨#[]⟩, .int .i64 0, .slice none 0 0] 24)
      have hbh := Blk.new w3 24 #[.int .i64 k, .string ⟨#[]⟩, .int .i64 0, .slice none 0 0]
      have h4 := h3.below lo4
      have hk4 := hk3.below lo4
      have hbr4 := hbr3.below lo4 hbr3.lt
      have hrl : W.heap.size < w3.heap.size := hbr3.lt
      have hmr : bm < W.heap.size := hM0.mb.lt
      clear lo4 h3 hk3 hbr3
      go_upto_region 5 with fail
      generalize hW4 : w3.alloc (Obj.cells #[.int .i64 k, .string ⟨#[]⟩, .int .i64 0, .slice none 0 0] 24) = W4 at *
      have HW4s : Hid (W4.heap.size = w3.heap.size + 1) := by unfold Hid; rw [← hW4]; simp
      generalize w3.heap.size = hb at *
      clear hW4
      by_cases hk3e : k = 3
      · subst hk3e
        have hkk : ((3 : Int) == 3) = true := by decide
        have hkr : kidR 3 = 0 := by decide
        have HKI : Hid (∀ V, Calls Tryd.prog 36 #[.int .i64 3] V fun e w' => e = .returned (.int .i64 0) ∧ V = w') := fun V => by
          have := rkids_any 3 V
          rw [hkr] at this
          exact this
        have hbS := Blk.new W4 9 #[.string ⟨#[113]⟩, .string ⟨#[108, 48]⟩, .string ⟨#[111, 117, 116]⟩, .string ⟨#[108, 49]⟩, .string ⟨#[105, 48]⟩, .string ⟨#[111, 48]⟩, .string ⟨#[97, 45, 98]⟩]
        have loS := lowAlloc W4 (Obj.cells #[.string ⟨#[113]⟩, .string ⟨#[108, 48]⟩, .string ⟨#[111, 117, 116]⟩, .string ⟨#[108, 49]⟩, .string ⟨#[105, 48]⟩, .string ⟨#[111, 48]⟩, .string ⟨#[97, 45, 98]⟩] 9)
        have h5 := h4.below loS
        have hk5 := hk4.below loS
        have hbr5 := hbr4.below loS hbr4.lt
        have hbh5 := hbh.below loS hbh.lt
        have hhS : hb < W4.heap.size := hbh.lt
        have hSs : W4.heap.size < (W4.alloc (Obj.cells #[.string ⟨#[113]⟩, .string ⟨#[108, 48]⟩, .string ⟨#[111, 117, 116]⟩, .string ⟨#[108, 49]⟩, .string ⟨#[105, 48]⟩, .string ⟨#[111, 48]⟩, .string ⟨#[97, 45, 98]⟩] 9)).heap.size := by simp
        have p0 := h5.pb.cell 0
        simp only [List.getElem?_toArray, List.getElem?_cons_zero, List.getElem?_cons_succ] at p0
        clear h4 hk4 hbr4 hbh loS hkr
        go_upto_region 6 with fail
        have HP5 := Lib.hid (h5.call (by omega) 7 (by decide) (by decide))
        go_wp2_with fail
        refine HP5.out.mono ?_
        rintro e w6 ⟨rfl, h6, hk6, hs6⟩
        have hlt7 := Fm.pick_lt (zs.map Int.toNat) 7 a2 (by decide)
        have hbS6 := hk6.blkOf hbS (by have := h6.b2; have := h6.b3; omega)
        have hbr6 := hk6.blkOf hbr5 (by have := h6.b2; have := h6.b3; omega)
        have hbh6 := hk6.blkOf hbh5 (by have := h6.b2; have := h6.b3; omega)
        have hkB := hk5.trans hk6
        have hmk : bm < hb := by omega
        have HNM : Hid (Fm.nameM (zs.map Int.toNat) 3 a2 = (Fm.namesL.getD (Fm.pickS (zs.map Int.toNat) 7 a2) [], a2 + 1)) := by unfold Hid Fm.nameM; rw [if_pos rfl]
        generalize Fm.pickS (zs.map Int.toNat) 7 a2 = p7 at *
        have hix := ixS7 W4.heap.size p7 hlt7
        have hSc : w6.cell? ⟨W4.heap.size, p7, none⟩ = some (.string (bsv (Fm.namesL.getD p7 []))) := by
          rw [hbS6.cell]
          exact names_cell p7 hlt7
        generalize Fm.namesL.getD p7 [] = nm at *
        have e1 := hbh6.cell 1
        have e1f := hbh6.frozen 1
        simp only [List.getElem?_toArray, List.getElem?_cons_zero, List.getElem?_cons_succ] at e1
        have hbhX : Blk (w6.setCell ⟨hb, 1, none⟩ (.string (bsv nm))) hb 24 #[.int .i64 3, .string (bsv nm), .int .i64 0, .slice none 0 0] := by simpa using hbh6.put 1 (.string (bsv nm))
        have hMX := h6.far (p := ⟨hb, 1, none⟩) hmk (.string (bsv nm))
        have hkX := hkB.far (p := ⟨hb, 1, none⟩) (by simp only; omega) (.string (bsv nm))
        have hbrX := hbr6.far (p := ⟨hb, 1, none⟩) (by simp only; omega) (.string (bsv nm))
        clear h5 hk5 hbr5 hbh5 hbS hbS6 HP5 hk6 hbr6 hbh6 hkB hs6 h6 p0
        go_upto_region 7 with fail
        generalize w6.setCell ⟨hb, 1, none⟩ (.string (bsv nm)) = W7 at *
        clear hSc e1 e1f hix
        go_wp2_with fail
        refine (HKI.out _).mono ?_
        rintro e w8 ⟨rfl, rfl⟩
        have HE : Hid (Fm.makeS (zs.map Int.toNat) d a = (.mk 3 nm 0 [], a2 + 1)) := by
          unfold Hid
          rw [HE0.out (Fm.makeS (zs.map Int.toNat) (d - 1)) (fun d' hd' => by subst hd'; rfl), HNM.out, kidN_3 (by decide)]
          rfl
        have hM := hMX
        have hk := hkX
        have hbr := hbrX
        have hbh := hbhX
        have hF : FV W7 (fun b => W.heap.size < b ∧ b < W7.heap.size ∧ Reg W7 b) (.mk 3 nm 0 []) (.agg #[.int .i64 3, .string (bsv nm), .int .i64 0, .slice none 0 0]) := FV.mk (A := none) (c := 0) (FL.nil _ _ _ _)
        clear hMX hkX hbrX hbhX HE0 HNM
        go_wp2
        go_loopw [9] (fun i wr => i = .int .i64 0 ∧ W7 = wr) (fun _ _ => 0)
        case atStart => exact ⟨rfl, rfl⟩
        case round =>
          obtain ⟨rfl, rfl⟩ := hrel
          have hKn : ¬ (W.heap.size < W.heap.size ∧ W.heap.size < W7.heap.size ∧ Reg W7 W.heap.size) := fun h => by have := h.1; omega
          have hF1 : FV W7 (fun b => W.heap.size < b ∧ b < W7.heap.size ∧ Reg W7 b) _ (.agg #[.int .i64 3, .string (bsv nm), .int .i64 0, .slice none 0 0]) := hF
          have hF9 := (((hF1.far (p := ⟨W.heap.size, 0, none⟩) hKn (.int .i64 3)).far (p := ⟨W.heap.size, 1, none⟩) hKn (.string (bsv nm))).far (p := ⟨W.heap.size, 2, none⟩) hKn (.int .i64 0)).far (p := ⟨W.heap.size, 3, none⟩) hKn (.slice none 0 0)
          have hF9b := hF9.more (K' := fun b => Fr W.heap.size (((((W7).setCell ⟨W.heap.size, 0, none⟩ (.int .i64 3)).setCell ⟨W.heap.size, 1, none⟩ (.string (bsv nm))).setCell ⟨W.heap.size, 2, none⟩ (.int .i64 0)).setCell ⟨W.heap.size, 3, none⟩ (.slice none 0 0)).heap.size b ∧ Reg (((((W7).setCell ⟨W.heap.size, 0, none⟩ (.int .i64 3)).setCell ⟨W.heap.size, 1, none⟩ (.string (bsv nm))).setCell ⟨W.heap.size, 2, none⟩ (.int .i64 0)).setCell ⟨W.heap.size, 3, none⟩ (.slice none 0 0)) b) (fun b hb => ⟨⟨by have := hb.1; omega, by have := hb.2.1; simp; omega⟩, by have := hb.1; exact (((hb.2.2.far (by simp only; omega) _).far (by simp only; omega) _).far (by simp only; omega) _).far (by simp only; omega) _⟩)
          have hM9 : MK (((((W7).setCell ⟨W.heap.size, 0, none⟩ (.int .i64 3)).setCell ⟨W.heap.size, 1, none⟩ (.string (bsv nm))).setCell ⟨W.heap.size, 2, none⟩ (.int .i64 0)).setCell ⟨W.heap.size, 3, none⟩ (.slice none 0 0)) B bl ba bp bm A c zs _ := (((hM.far (p := ⟨W.heap.size, 0, none⟩) hmr (.int .i64 3)).far (p := ⟨W.heap.size, 1, none⟩) hmr (.string (bsv nm))).far (p := ⟨W.heap.size, 2, none⟩) hmr (.int .i64 0)).far (p := ⟨W.heap.size, 3, none⟩) hmr (.slice none 0 0)
          have hk9 : RKeep ba W (((((W7).setCell ⟨W.heap.size, 0, none⟩ (.int .i64 3)).setCell ⟨W.heap.size, 1, none⟩ (.string (bsv nm))).setCell ⟨W.heap.size, 2, none⟩ (.int .i64 0)).setCell ⟨W.heap.size, 3, none⟩ (.slice none 0 0)) := (((hk.far (p := ⟨W.heap.size, 0, none⟩) (Nat.le_refl _) _).far (p := ⟨W.heap.size, 1, none⟩) (Nat.le_refl _) _).far (p := ⟨W.heap.size, 2, none⟩) (Nat.le_refl _) _).far (p := ⟨W.heap.size, 3, none⟩) (Nat.le_refl _) _
          have hC9 : Blk (((((W7).setCell ⟨W.heap.size, 0, none⟩ (.int .i64 3)).setCell ⟨W.heap.size, 1, none⟩ (.string (bsv nm))).setCell ⟨W.heap.size, 2, none⟩ (.int .i64 0)).setCell ⟨W.heap.size, 3, none⟩ (.slice none 0 0)) W.heap.size 24 #[.int .i64 3, .string (bsv nm), .int .i64 0, .slice none 0 0] := by simpa using (((hbr.put 0 (.int .i64 3)).put 1 (.string (bsv nm))).put 2 (.int .i64 0)).put 3 (.slice none 0 0)
          have HC9 := Lib.hid hC9
          have HM9 := Lib.hid hM9
          have HK9 := Lib.hid hk9
          have HF9 := Lib.hid hF9b
          have r0 := hbr.cell 0
          have r1 := hbr.cell 1
          have r2 := hbr.cell 2
          have r3 := hbr.cell 3
          have g0 := hbh.cell 0
          have g1 := hbh.cell 1
          have g2 := hbh.cell 2
          have g3 := hbh.cell 3
          simp only [List.getElem?_toArray, List.getElem?_cons_zero, List.getElem?_cons_succ] at r0 r1 r2 r3 g0 g1 g2 g3
          have q0 := hbr.frozen 0
          have q1 := hbr.frozen 1
          have q2 := hbr.frozen 2
          have q3 := hbr.frozen 3
          clear hF hF1 hF9 hF9b hM hM9 hk hk9 hC9 hbr hbh hKn
          go_wp2
          clear r0 r1 r2 r3 q0 q1 q2 q3 g0 g1 g2 g3
          generalize ((((W7).setCell ⟨W.heap.size, 0, none⟩ (.int .i64 3)).setCell ⟨W.heap.size, 1, none⟩ (.string (bsv nm))).setCell ⟨W.heap.size, 2, none⟩ (.int .i64 0)).setCell ⟨W.heap.size, 3, none⟩ (.slice none 0 0) = V9 at *
          have t0 := HC9.out.cell 0
          have t1 := HC9.out.cell 1
          have t2 := HC9.out.cell 2
          have t3 := HC9.out.cell 3
          simp only [List.getElem?_toArray, List.getElem?_cons_zero, List.getElem?_cons_succ] at t0 t1 t2 t3
          refine bodyPost_ret (v := .agg #[.int .i64 3, .string (bsv nm), .int .i64 0, .slice none 0 0]) (by simp [results, Tryd.results35, go_sem, t0, t1, t2, t3]) rfl ?_
          rw [HE.out]
          exact ⟨_, rfl, HF9.out, HM9.out, HK9.out⟩
      · obtain rfl : k = 2 := by
          rcases hkf with h | h
          · exact h
          · exact absurd h hk3e
        have hkk : ((2 : Int) == 3) = false := by decide
        have hkr : kidR 2 = 0 := by decide
        have HKI : Hid (∀ V, Calls Tryd.prog 36 #[.int .i64 2] V fun e w' => e = .returned (.int .i64 0) ∧ V = w') := fun V => by
          have := rkids_any 2 V
          rw [hkr] at this
          exact this
        have HE : Hid (Fm.makeS (zs.map Int.toNat) d a = (.mk 2 [] 0 [], a2)) := by
          unfold Hid
          rw [HE0.out (Fm.makeS (zs.map Int.toNat) (d - 1)) (fun d' hd' => by subst hd'; rfl), name_other _ _ (by decide), kidN_3 (by decide)]
          rfl
        clear HE0 hkr
        go_wp2_with fail
        refine (HKI.out _).mono ?_
        rintro e w8 ⟨rfl, rfl⟩
        clear HKI
        have hM := h4
        have hk := hk4
        have hbr := hbr4
        have hF : FV W4 (fun b => W.heap.size < b ∧ b < W4.heap.size ∧ Reg W4 b) (.mk 2 [] 0 []) (.agg #[.int .i64 2, .string ⟨#[]⟩, .int .i64 0, .slice none 0 0]) := FV.mk (A := none) (c := 0) (FL.nil _ _ _ _)
        clear h4 hk4 hbr4
        go_wp2
        go_loopw [9] (fun i wr => i = .int .i64 0 ∧ W4 = wr) (fun _ _ => 0)
        case atStart => exact ⟨rfl, rfl⟩
        case round =>
          obtain ⟨rfl, rfl⟩ := hrel
          have hKn : ¬ (W.heap.size < W.heap.size ∧ W.heap.size < W4.heap.size ∧ Reg W4 W.heap.size) := fun h => by have := h.1; omega
          have hF1 : FV W4 (fun b => W.heap.size < b ∧ b < W4.heap.size ∧ Reg W4 b) _ (.agg #[.int .i64 2, .string ⟨#[]⟩, .int .i64 0, .slice none 0 0]) := hF
          have hF9 := (((hF1.far (p := ⟨W.heap.size, 0, none⟩) hKn (.int .i64 2)).far (p := ⟨W.heap.size, 1, none⟩) hKn (.string ⟨#[]⟩)).far (p := ⟨W.heap.size, 2, none⟩) hKn (.int .i64 0)).far (p := ⟨W.heap.size, 3, none⟩) hKn (.slice none 0 0)
          have hF9b := hF9.more (K' := fun b => Fr W.heap.size (((((W4).setCell ⟨W.heap.size, 0, none⟩ (.int .i64 2)).setCell ⟨W.heap.size, 1, none⟩ (.string ⟨#[]⟩)).setCell ⟨W.heap.size, 2, none⟩ (.int .i64 0)).setCell ⟨W.heap.size, 3, none⟩ (.slice none 0 0)).heap.size b ∧ Reg (((((W4).setCell ⟨W.heap.size, 0, none⟩ (.int .i64 2)).setCell ⟨W.heap.size, 1, none⟩ (.string ⟨#[]⟩)).setCell ⟨W.heap.size, 2, none⟩ (.int .i64 0)).setCell ⟨W.heap.size, 3, none⟩ (.slice none 0 0)) b) (fun b hb => ⟨⟨by have := hb.1; omega, by have := hb.2.1; simp; omega⟩, by have := hb.1; exact (((hb.2.2.far (by simp only; omega) _).far (by simp only; omega) _).far (by simp only; omega) _).far (by simp only; omega) _⟩)
          have hM9 : MK (((((W4).setCell ⟨W.heap.size, 0, none⟩ (.int .i64 2)).setCell ⟨W.heap.size, 1, none⟩ (.string ⟨#[]⟩)).setCell ⟨W.heap.size, 2, none⟩ (.int .i64 0)).setCell ⟨W.heap.size, 3, none⟩ (.slice none 0 0)) B bl ba bp bm A c zs _ := (((hM.far (p := ⟨W.heap.size, 0, none⟩) hmr (.int .i64 2)).far (p := ⟨W.heap.size, 1, none⟩) hmr (.string ⟨#[]⟩)).far (p := ⟨W.heap.size, 2, none⟩) hmr (.int .i64 0)).far (p := ⟨W.heap.size, 3, none⟩) hmr (.slice none 0 0)
          have hk9 : RKeep ba W (((((W4).setCell ⟨W.heap.size, 0, none⟩ (.int .i64 2)).setCell ⟨W.heap.size, 1, none⟩ (.string ⟨#[]⟩)).setCell ⟨W.heap.size, 2, none⟩ (.int .i64 0)).setCell ⟨W.heap.size, 3, none⟩ (.slice none 0 0)) := (((hk.far (p := ⟨W.heap.size, 0, none⟩) (Nat.le_refl _) _).far (p := ⟨W.heap.size, 1, none⟩) (Nat.le_refl _) _).far (p := ⟨W.heap.size, 2, none⟩) (Nat.le_refl _) _).far (p := ⟨W.heap.size, 3, none⟩) (Nat.le_refl _) _
          have hC9 : Blk (((((W4).setCell ⟨W.heap.size, 0, none⟩ (.int .i64 2)).setCell ⟨W.heap.size, 1, none⟩ (.string ⟨#[]⟩)).setCell ⟨W.heap.size, 2, none⟩ (.int .i64 0)).setCell ⟨W.heap.size, 3, none⟩ (.slice none 0 0)) W.heap.size 24 #[.int .i64 2, .string ⟨#[]⟩, .int .i64 0, .slice none 0 0] := by simpa using (((hbr.put 0 (.int .i64 2)).put 1 (.string ⟨#[]⟩)).put 2 (.int .i64 0)).put 3 (.slice none 0 0)
          have HC9 := Lib.hid hC9
          have HM9 := Lib.hid hM9
          have HK9 := Lib.hid hk9
          have HF9 := Lib.hid hF9b
          have r0 := hbr.cell 0
          have r1 := hbr.cell 1
          have r2 := hbr.cell 2
          have r3 := hbr.cell 3
          have g0 := hbh.cell 0
          have g1 := hbh.cell 1
          have g2 := hbh.cell 2
          have g3 := hbh.cell 3
          simp only [List.getElem?_toArray, List.getElem?_cons_zero, List.getElem?_cons_succ] at r0 r1 r2 r3 g0 g1 g2 g3
          have q0 := hbr.frozen 0
          have q1 := hbr.frozen 1
          have q2 := hbr.frozen 2
          have q3 := hbr.frozen 3
          clear hF hF1 hF9 hF9b hM hM9 hk hk9 hC9 hbr hbh hKn
          go_wp2
          clear r0 r1 r2 r3 q0 q1 q2 q3 g0 g1 g2 g3
          generalize ((((W4).setCell ⟨W.heap.size, 0, none⟩ (.int .i64 2)).setCell ⟨W.heap.size, 1, none⟩ (.string ⟨#[]⟩)).setCell ⟨W.heap.size, 2, none⟩ (.int .i64 0)).setCell ⟨W.heap.size, 3, none⟩ (.slice none 0 0) = V9 at *
          have t0 := HC9.out.cell 0
          have t1 := HC9.out.cell 1
          have t2 := HC9.out.cell 2
          have t3 := HC9.out.cell 3
          simp only [List.getElem?_toArray, List.getElem?_cons_zero, List.getElem?_cons_succ] at t0 t1 t2 t3
          refine bodyPost_ret (v := .agg #[.int .i64 2, .string ⟨#[]⟩, .int .i64 0, .slice none 0 0]) (by simp [results, Tryd.results35, go_sem, t0, t1, t2, t3]) rfl ?_
          rw [HE.out]
          exact ⟨_, rfl, HF9.out, HM9.out, HK9.out⟩
    · have c1 : ((d : Int) == 0) = false := by rw [beq_eq_false_iff_ne]; omega
      have c2 : (zs.length : Int) ≤ (a : Int) + 1 := by omega
      go_wp2_with fail
      refine HP.out.mono ?_
      rintro e w3 ⟨rfl, h3, hkx, hs3⟩
      have hbr3 := hkx.blkOf hbr2 hne
      have hk3 := hkT.trans hkx
      clear HP h2 hkx hs3 hbr2 hkT p0
      generalize hpk : Fm.pickS (zs.map Int.toNat) 7 (a + 1) = p7 at *
      have hq1 : ((p7 : Int).tdiv 5) = ((p7 / 5 : Nat) : Int) := by rw [Int.tdiv_eq_ediv_of_nonneg (by omega)]; omega
      have hq2 : ((p7 : Int) / 5) = ((p7 / 5 : Nat) : Int) := by omega
      generalize hq7 : p7 / 5 = q7 at *
      obtain ⟨k, hk⟩ : ∃ k : Int, 3 - (q7 : Int) = k := ⟨_, rfl⟩
      rw [hk] at hd1 hk18 HE0
      have hq8 : q7 ≤ 1 := by omega
      have hkf : k = 2 ∨ k = 3 := by omega
      have ha2 : a + 2 ≤ 402 := by omega
      rw [show a + 1 + 1 = a + 2 from rfl] at h3
      generalize a + 2 = a2 at h3 HE0 ha2
      clear hpk hq7 HTT
      go_upto_region 4 with fail
      clear hcl hca
      have lo4 := lowAlloc w3 (Obj.cells #[.int .i64 k, .string ⟨#[]⟩, .int .i64 0, .slice none 0 0] 24)
      have hbh := Blk.new w3 24 #[.int .i64 k, .string ⟨#[]⟩, .int .i64 0, .slice none 0 0]
      have h4 := h3.below lo4
      have hk4 := hk3.below lo4
      have hbr4 := hbr3.below lo4 hbr3.lt
      have hrl : W.heap.size < w3.heap.size := hbr3.lt
      have hmr : bm < W.heap.size := hM0.mb.lt
      clear lo4 h3 hk3 hbr3
      go_upto_region 5 with fail
      generalize hW4 : w3.alloc (Obj.cells #[.int .i64 k, .string ⟨#[]⟩, .int .i64 0, .slice none 0 0] 24) = W4 at *
      have HW4s : Hid (W4.heap.size = w3.heap.size + 1) := by unfold Hid; rw [← hW4]; simp
      generalize w3.heap.size = hb at *
      clear hW4
      by_cases hk3e : k = 3
      · subst hk3e
        have hkk : ((3 : Int) == 3) = true := by decide
        have hkr : kidR 3 = 0 := by decide
        have HKI : Hid (∀ V, Calls Tryd.prog 36 #[.int .i64 3] V fun e w' => e = .returned (.int .i64 0) ∧ V = w') := fun V => by
          have := rkids_any 3 V
          rw [hkr] at this
          exact this
        have hbS := Blk.new W4 9 #[.string ⟨#[113]⟩, .string ⟨#[108, 48]⟩, .string ⟨#[111, 117, 116]⟩, .string ⟨#[108, 49]⟩, .string ⟨#[105, 48]⟩, .string ⟨#[111, 48]⟩, .string ⟨#[97, 45, 98]⟩]
        have loS := lowAlloc W4 (Obj.cells #[.string ⟨#[113]⟩, .string ⟨#[108, 48]⟩, .string ⟨#[111, 117, 116]⟩, .string ⟨#[108, 49]⟩, .string ⟨#[105, 48]⟩, .string ⟨#[111, 48]⟩, .string ⟨#[97, 45, 98]⟩] 9)
        have h5 := h4.below loS
        have hk5 := hk4.below loS
        have hbr5 := hbr4.below loS hbr4.lt
        have hbh5 := hbh.below loS hbh.lt
        have hhS : hb < W4.heap.size := hbh.lt
        have hSs : W4.heap.size < (W4.alloc (Obj.cells #[.string ⟨#[113]⟩, .string ⟨#[108, 48]⟩, .string ⟨#[111, 117, 116]⟩, .string ⟨#[108, 49]⟩, .string ⟨#[105, 48]⟩, .string ⟨#[111, 48]⟩, .string ⟨#[97, 45, 98]⟩] 9)).heap.size := by simp
        have p0 := h5.pb.cell 0
        simp only [List.getElem?_toArray, List.getElem?_cons_zero, List.getElem?_cons_succ] at p0
        clear h4 hk4 hbr4 hbh loS hkr
        go_upto_region 6 with fail
        have HP5 := Lib.hid (h5.call (by omega) 7 (by decide) (by decide))
        go_wp2_with fail
        refine HP5.out.mono ?_
        rintro e w6 ⟨rfl, h6, hk6, hs6⟩
        have hlt7 := Fm.pick_lt (zs.map Int.toNat) 7 a2 (by decide)
        have hbS6 := hk6.blkOf hbS (by have := h6.b2; have := h6.b3; omega)
        have hbr6 := hk6.blkOf hbr5 (by have := h6.b2; have := h6.b3; omega)
        have hbh6 := hk6.blkOf hbh5 (by have := h6.b2; have := h6.b3; omega)
        have hkB := hk5.trans hk6
        have hmk : bm < hb := by omega
        have HNM : Hid (Fm.nameM (zs.map Int.toNat) 3 a2 = (Fm.namesL.getD (Fm.pickS (zs.map Int.toNat) 7 a2) [], a2 + 1)) := by unfold Hid Fm.nameM; rw [if_pos rfl]
        generalize Fm.pickS (zs.map Int.toNat) 7 a2 = p7 at *
        have hix := ixS7 W4.heap.size p7 hlt7
        have hSc : w6.cell? ⟨W4.heap.size, p7, none⟩ = some (.string (bsv (Fm.namesL.getD p7 []))) := by
          rw [hbS6.cell]
          exact names_cell p7 hlt7
        generalize Fm.namesL.getD p7 [] = nm at *
        have e1 := hbh6.cell 1
        have e1f := hbh6.frozen 1
        simp only [List.getElem?_toArray, List.getElem?_cons_zero, List.getElem?_cons_succ] at e1
        have hbhX : Blk (w6.setCell ⟨hb, 1, none⟩ (.string (bsv nm))) hb 24 #[.int .i64 3, .string (bsv nm), .int .i64 0, .slice none 0 0] := by simpa using hbh6.put 1 (.string (bsv nm))
        have hMX := h6.far (p := ⟨hb, 1, none⟩) hmk (.string (bsv nm))
        have hkX := hkB.far (p := ⟨hb, 1, none⟩) (by simp only; omega) (.string (bsv nm))
        have hbrX := hbr6.far (p := ⟨hb, 1, none⟩) (by simp only; omega) (.string (bsv nm))
        clear h5 hk5 hbr5 hbh5 hbS hbS6 HP5 hk6 hbr6 hbh6 hkB hs6 h6 p0
        go_upto_region 7 with fail
        generalize w6.setCell ⟨hb, 1, none⟩ (.string (bsv nm)) = W7 at *
        clear hSc e1 e1f hix
        go_wp2_with fail
        refine (HKI.out _).mono ?_
        rintro e w8 ⟨rfl, rfl⟩
        have HE : Hid (Fm.makeS (zs.map Int.toNat) d a = (.mk 3 nm 0 [], a2 + 1)) := by
          unfold Hid
          rw [HE0.out (Fm.makeS (zs.map Int.toNat) (d - 1)) (fun d' hd' => by subst hd'; rfl), HNM.out, kidN_3 (by decide)]
          rfl
        have hM := hMX
        have hk := hkX
        have hbr := hbrX
        have hbh := hbhX
        have hF : FV W7 (fun b => W.heap.size < b ∧ b < W7.heap.size ∧ Reg W7 b) (.mk 3 nm 0 []) (.agg #[.int .i64 3, .string (bsv nm), .int .i64 0, .slice none 0 0]) := FV.mk (A := none) (c := 0) (FL.nil _ _ _ _)
        clear hMX hkX hbrX hbhX HE0 HNM
        go_wp2
        go_loopw [9] (fun i wr => i = .int .i64 0 ∧ W7 = wr) (fun _ _ => 0)
        case atStart => exact ⟨rfl, rfl⟩
        case round =>
          obtain ⟨rfl, rfl⟩ := hrel
          have hKn : ¬ (W.heap.size < W.heap.size ∧ W.heap.size < W7.heap.size ∧ Reg W7 W.heap.size) := fun h => by have := h.1; omega
          have hF1 : FV W7 (fun b => W.heap.size < b ∧ b < W7.heap.size ∧ Reg W7 b) _ (.agg #[.int .i64 3, .string (bsv nm), .int .i64 0, .slice none 0 0]) := hF
          have hF9 := (((hF1.far (p := ⟨W.heap.size, 0, none⟩) hKn (.int .i64 3)).far (p := ⟨W.heap.size, 1, none⟩) hKn (.string (bsv nm))).far (p := ⟨W.heap.size, 2, none⟩) hKn (.int .i64 0)).far (p := ⟨W.heap.size, 3, none⟩) hKn (.slice none 0 0)
          have hF9b := hF9.more (K' := fun b => Fr W.heap.size (((((W7).setCell ⟨W.heap.size, 0, none⟩ (.int .i64 3)).setCell ⟨W.heap.size, 1, none⟩ (.string (bsv nm))).setCell ⟨W.heap.size, 2, none⟩ (.int .i64 0)).setCell ⟨W.heap.size, 3, none⟩ (.slice none 0 0)).heap.size b ∧ Reg (((((W7).setCell ⟨W.heap.size, 0, none⟩ (.int .i64 3)).setCell ⟨W.heap.size, 1, none⟩ (.string (bsv nm))).setCell ⟨W.heap.size, 2, none⟩ (.int .i64 0)).setCell ⟨W.heap.size, 3, none⟩ (.slice none 0 0)) b) (fun b hb => ⟨⟨by have := hb.1; omega, by have := hb.2.1; simp; omega⟩, by have := hb.1; exact (((hb.2.2.far (by simp only; omega) _).far (by simp only; omega) _).far (by simp only; omega) _).far (by simp only; omega) _⟩)
          have hM9 : MK (((((W7).setCell ⟨W.heap.size, 0, none⟩ (.int .i64 3)).setCell ⟨W.heap.size, 1, none⟩ (.string (bsv nm))).setCell ⟨W.heap.size, 2, none⟩ (.int .i64 0)).setCell ⟨W.heap.size, 3, none⟩ (.slice none 0 0)) B bl ba bp bm A c zs _ := (((hM.far (p := ⟨W.heap.size, 0, none⟩) hmr (.int .i64 3)).far (p := ⟨W.heap.size, 1, none⟩) hmr (.string (bsv nm))).far (p := ⟨W.heap.size, 2, none⟩) hmr (.int .i64 0)).far (p := ⟨W.heap.size, 3, none⟩) hmr (.slice none 0 0)
          have hk9 : RKeep ba W (((((W7).setCell ⟨W.heap.size, 0, none⟩ (.int .i64 3)).setCell ⟨W.heap.size, 1, none⟩ (.string (bsv nm))).setCell ⟨W.heap.size, 2, none⟩ (.int .i64 0)).setCell ⟨W.heap.size, 3, none⟩ (.slice none 0 0)) := (((hk.far (p := ⟨W.heap.size, 0, none⟩) (Nat.le_refl _) _).far (p := ⟨W.heap.size, 1, none⟩) (Nat.le_refl _) _).far (p := ⟨W.heap.size, 2, none⟩) (Nat.le_refl _) _).far (p := ⟨W.heap.size, 3, none⟩) (Nat.le_refl _) _
          have hC9 : Blk (((((W7).setCell ⟨W.heap.size, 0, none⟩ (.int .i64 3)).setCell ⟨W.heap.size, 1, none⟩ (.string (bsv nm))).setCell ⟨W.heap.size, 2, none⟩ (.int .i64 0)).setCell ⟨W.heap.size, 3, none⟩ (.slice none 0 0)) W.heap.size 24 #[.int .i64 3, .string (bsv nm), .int .i64 0, .slice none 0 0] := by simpa using (((hbr.put 0 (.int .i64 3)).put 1 (.string (bsv nm))).put 2 (.int .i64 0)).put 3 (.slice none 0 0)
          have HC9 := Lib.hid hC9
          have HM9 := Lib.hid hM9
          have HK9 := Lib.hid hk9
          have HF9 := Lib.hid hF9b
          have r0 := hbr.cell 0
          have r1 := hbr.cell 1
          have r2 := hbr.cell 2
          have r3 := hbr.cell 3
          have g0 := hbh.cell 0
          have g1 := hbh.cell 1
          have g2 := hbh.cell 2
          have g3 := hbh.cell 3
          simp only [List.getElem?_toArray, List.getElem?_cons_zero, List.getElem?_cons_succ] at r0 r1 r2 r3 g0 g1 g2 g3
          have q0 := hbr.frozen 0
          have q1 := hbr.frozen 1
          have q2 := hbr.frozen 2
          have q3 := hbr.frozen 3
          clear hF hF1 hF9 hF9b hM hM9 hk hk9 hC9 hbr hbh hKn
          go_wp2
          clear r0 r1 r2 r3 q0 q1 q2 q3 g0 g1 g2 g3
          generalize ((((W7).setCell ⟨W.heap.size, 0, none⟩ (.int .i64 3)).setCell ⟨W.heap.size, 1, none⟩ (.string (bsv nm))).setCell ⟨W.heap.size, 2, none⟩ (.int .i64 0)).setCell ⟨W.heap.size, 3, none⟩ (.slice none 0 0) = V9 at *
          have t0 := HC9.out.cell 0
          have t1 := HC9.out.cell 1
          have t2 := HC9.out.cell 2
          have t3 := HC9.out.cell 3
          simp only [List.getElem?_toArray, List.getElem?_cons_zero, List.getElem?_cons_succ] at t0 t1 t2 t3
          refine bodyPost_ret (v := .agg #[.int .i64 3, .string (bsv nm), .int .i64 0, .slice none 0 0]) (by simp [results, Tryd.results35, go_sem, t0, t1, t2, t3]) rfl ?_
          rw [HE.out]
          exact ⟨_, rfl, HF9.out, HM9.out, HK9.out⟩
      · obtain rfl : k = 2 := by
          rcases hkf with h | h
          · exact h
          · exact absurd h hk3e
        have hkk : ((2 : Int) == 3) = false := by decide
        have hkr : kidR 2 = 0 := by decide
        have HKI : Hid (∀ V, Calls Tryd.prog 36 #[.int .i64 2] V fun e w' => e = .returned (.int .i64 0) ∧ V = w') := fun V => by
          have := rkids_any 2 V
          rw [hkr] at this
          exact this
        have HE : Hid (Fm.makeS (zs.map Int.toNat) d a = (.mk 2 [] 0 [], a2)) := by
          unfold Hid
          rw [HE0.out (Fm.makeS (zs.map Int.toNat) (d - 1)) (fun d' hd' => by subst hd'; rfl), name_other _ _ (by decide), kidN_3 (by decide)]
          rfl
        clear HE0 hkr
        go_wp2_with fail
        refine (HKI.out _).mono ?_
        rintro e w8 ⟨rfl, rfl⟩
        clear HKI
        have hM := h4
        have hk := hk4
        have hbr := hbr4
        have hF : FV W4 (fun b => W.heap.size < b ∧ b < W4.heap.size ∧ Reg W4 b) (.mk 2 [] 0 []) (.agg #[.int .i64 2, .string ⟨#[]⟩, .int .i64 0, .slice none 0 0]) := FV.mk (A := none) (c := 0) (FL.nil _ _ _ _)
        clear h4 hk4 hbr4
        go_wp2
        go_loopw [9] (fun i wr => i = .int .i64 0 ∧ W4 = wr) (fun _ _ => 0)
        case atStart => exact ⟨rfl, rfl⟩
        case round =>
          obtain ⟨rfl, rfl⟩ := hrel
          have hKn : ¬ (W.heap.size < W.heap.size ∧ W.heap.size < W4.heap.size ∧ Reg W4 W.heap.size) := fun h => by have := h.1; omega
          have hF1 : FV W4 (fun b => W.heap.size < b ∧ b < W4.heap.size ∧ Reg W4 b) _ (.agg #[.int .i64 2, .string ⟨#[]⟩, .int .i64 0, .slice none 0 0]) := hF
          have hF9 := (((hF1.far (p := ⟨W.heap.size, 0, none⟩) hKn (.int .i64 2)).far (p := ⟨W.heap.size, 1, none⟩) hKn (.string ⟨#[]⟩)).far (p := ⟨W.heap.size, 2, none⟩) hKn (.int .i64 0)).far (p := ⟨W.heap.size, 3, none⟩) hKn (.slice none 0 0)
          have hF9b := hF9.more (K' := fun b => Fr W.heap.size (((((W4).setCell ⟨W.heap.size, 0, none⟩ (.int .i64 2)).setCell ⟨W.heap.size, 1, none⟩ (.string ⟨#[]⟩)).setCell ⟨W.heap.size, 2, none⟩ (.int .i64 0)).setCell ⟨W.heap.size, 3, none⟩ (.slice none 0 0)).heap.size b ∧ Reg (((((W4).setCell ⟨W.heap.size, 0, none⟩ (.int .i64 2)).setCell ⟨W.heap.size, 1, none⟩ (.string ⟨#[]⟩)).setCell ⟨W.heap.size, 2, none⟩ (.int .i64 0)).setCell ⟨W.heap.size, 3, none⟩ (.slice none 0 0)) b) (fun b hb => ⟨⟨by have := hb.1; omega, by have := hb.2.1; simp; omega⟩, by have := hb.1; exact (((hb.2.2.far (by simp only; omega) _).far (by simp only; omega) _).far (by simp only; omega) _).far (by simp only; omega) _⟩)
          have hM9 : MK (((((W4).setCell ⟨W.heap.size, 0, none⟩ (.int .i64 2)).setCell ⟨W.heap.size, 1, none⟩ (.string ⟨#[]⟩)).setCell ⟨W.heap.size, 2, none⟩ (.int .i64 0)).setCell ⟨W.heap.size, 3, none⟩ (.slice none 0 0)) B bl ba bp bm A c zs _ := (((hM.far (p := ⟨W.heap.size, 0, none⟩) hmr (.int .i64 2)).far (p := ⟨W.heap.size, 1, none⟩) hmr (.string ⟨#[]⟩)).far (p := ⟨W.heap.size, 2, none⟩) hmr (.int .i64 0)).far (p := ⟨W.heap.size, 3, none⟩) hmr (.slice none 0 0)
          have hk9 : RKeep ba W (((((W4).setCell ⟨W.heap.size, 0, none⟩ (.int .i64 2)).setCell ⟨W.heap.size, 1, none⟩ (.string ⟨#[]⟩)).setCell ⟨W.heap.size, 2, none⟩ (.int .i64 0)).setCell ⟨W.heap.size, 3, none⟩ (.slice none 0 0)) := (((hk.far (p := ⟨W.heap.size, 0, none⟩) (Nat.le_refl _) _).far (p := ⟨W.heap.size, 1, none⟩) (Nat.le_refl _) _).far (p := ⟨W.heap.size, 2, none⟩) (Nat.le_refl _) _).far (p := ⟨W.heap.size, 3, none⟩) (Nat.le_refl _) _
          have hC9 : Blk (((((W4).setCell ⟨W.heap.size, 0, none⟩ (.int .i64 2)).setCell ⟨W.heap.size, 1, none⟩ (.string ⟨#[]⟩)).setCell ⟨W.heap.size, 2, none⟩ (.int .i64 0)).setCell ⟨W.heap.size, 3, none⟩ (.slice none 0 0)) W.heap.size 24 #[.int .i64 2, .string ⟨#[]⟩, .int .i64 0, .slice none 0 0] := by simpa using (((hbr.put 0 (.int .i64 2)).put 1 (.string ⟨#[]⟩)).put 2 (.int .i64 0)).put 3 (.slice none 0 0)
          have HC9 := Lib.hid hC9
          have HM9 := Lib.hid hM9
          have HK9 := Lib.hid hk9
          have HF9 := Lib.hid hF9b
          have r0 := hbr.cell 0
          have r1 := hbr.cell 1
          have r2 := hbr.cell 2
          have r3 := hbr.cell 3
          have g0 := hbh.cell 0
          have g1 := hbh.cell 1
          have g2 := hbh.cell 2
          have g3 := hbh.cell 3
          simp only [List.getElem?_toArray, List.getElem?_cons_zero, List.getElem?_cons_succ] at r0 r1 r2 r3 g0 g1 g2 g3
          have q0 := hbr.frozen 0
          have q1 := hbr.frozen 1
          have q2 := hbr.frozen 2
          have q3 := hbr.frozen 3
          clear hF hF1 hF9 hF9b hM hM9 hk hk9 hC9 hbr hbh hKn
          go_wp2
          clear r0 r1 r2 r3 q0 q1 q2 q3 g0 g1 g2 g3
          generalize ((((W4).setCell ⟨W.heap.size, 0, none⟩ (.int .i64 2)).setCell ⟨W.heap.size, 1, none⟩ (.string ⟨#[]⟩)).setCell ⟨W.heap.size, 2, none⟩ (.int .i64 0)).setCell ⟨W.heap.size, 3, none⟩ (.slice none 0 0) = V9 at *
          have t0 := HC9.out.cell 0
          have t1 := HC9.out.cell 1
          have t2 := HC9.out.cell 2
          have t3 := HC9.out.cell 3
          simp only [List.getElem?_toArray, List.getElem?_cons_zero, List.getElem?_cons_succ] at t0 t1 t2 t3
          refine bodyPost_ret (v := .agg #[.int .i64 2, .string ⟨#[]⟩, .int .i64 0, .slice none 0 0]) (by simp [results, Tryd.results35, go_sem, t0, t1, t2, t3]) rfl ?_
          rw [HE.out]
          exact ⟨_, rfl, HF9.out, HM9.out, HK9.out⟩
    · have c1 : ((d : Int) == 0) = false := by rw [beq_eq_false_iff_ne]; omega
      have c2 : ¬ (zs.length : Int) ≤ (a : Int) + 1 := by omega
      have c3 : (30 : Int) < (a : Int) + 1 := by omega
      go_wp2_with fail
      refine HP.out.mono ?_
      rintro e w3 ⟨rfl, h3, hkx, hs3⟩
      have hbr3 := hkx.blkOf hbr2 hne
      have hk3 := hkT.trans hkx
      clear HP h2 hkx hs3 hbr2 hkT p0
      generalize hpk : Fm.pickS (zs.map Int.toNat) 7 (a + 1) = p7 at *
      have hq1 : ((p7 : Int).tdiv 5) = ((p7 / 5 : Nat) : Int) := by rw [Int.tdiv_eq_ediv_of_nonneg (by omega)]; omega
      have hq2 : ((p7 : Int) / 5) = ((p7 / 5 : Nat) : Int) := by omega
      generalize hq7 : p7 / 5 = q7 at *
      obtain ⟨k, hk⟩ : ∃ k : Int, 3 - (q7 : Int) = k := ⟨_, rfl⟩
      rw [hk] at hd1 hk18 HE0
      have hq8 : q7 ≤ 1 := by omega
      have hkf : k = 2 ∨ k = 3 := by omega
      have ha2 : a + 2 ≤ 402 := by omega
      rw [show a + 1 + 1 = a + 2 from rfl] at h3
      generalize a + 2 = a2 at h3 HE0 ha2
      clear hpk hq7 HTT
      go_upto_region 4 with fail
      clear hcl hca
      have lo4 := lowAlloc w3 (Obj.cells #[.int .i64 k, .string ⟨#[]⟩, .int .i64 0, .slice none 0 0] 24)
      have hbh := Blk.new w3 24 #[.int .i64 k, .string ⟨#[]⟩, .int .i64 0, .slice none 0 0]
      have h4 := h3.below lo4
      have hk4 := hk3.below lo4
      have hbr4 := hbr3.below lo4 hbr3.lt
      have hrl : W.heap.size < w3.heap.size := hbr3.lt
      have hmr : bm < W.heap.size := hM0.mb.lt
      clear lo4 h3 hk3 hbr3
      go_upto_region 5 with fail
      generalize hW4 : w3.alloc (Obj.cells #[.int .i64 k, .string ⟨#[]⟩, .int .i64 0, .slice none 0 0] 24) = W4 at *
      have HW4s : Hid (W4.heap.size = w3.heap.size + 1) := by unfold Hid; rw [← hW4]; simp
      generalize w3.heap.size = hb at *
      clear hW4
      by_cases hk3e : k = 3
      · subst hk3e
        have hkk : ((3 : Int) == 3) = true := by decide
        have hkr : kidR 3 = 0 := by decide
        have HKI : Hid (∀ V, Calls Tryd.prog 36 #[.int .i64 3] V fun e w' => e = .returned (.int .i64 0) ∧ V = w') := fun V => by
          have := rkids_any 3 V
          rw [hkr] at this
          exact this
        have hbS := Blk.new W4 9 #[.string ⟨#[113]⟩, .string ⟨#[108, 48]⟩, .string ⟨#[111, 117, 116]⟩, .string ⟨#[108, 49]⟩, .string ⟨#[105, 48]⟩, .string ⟨#[111, 48]⟩, .string ⟨#[97, 45, 98]⟩]
        have loS := lowAlloc W4 (Obj.cells #[.string ⟨#[113]⟩, .string ⟨#[108, 48]⟩, .string ⟨#[111, 117, 116]⟩, .string ⟨#[108, 49]⟩, .string ⟨#[105, 48]⟩, .string ⟨#[111, 48]⟩, .string ⟨#[97, 45, 98]⟩] 9)
        have h5 := h4.below loS
        have hk5 := hk4.below loS
        have hbr5 := hbr4.below loS hbr4.lt
        have hbh5 := hbh.below loS hbh.lt
        have hhS : hb < W4.heap.size := hbh.lt
        have hSs : W4.heap.size < (W4.alloc (Obj.cells #[.string ⟨#[113]⟩, .string ⟨#[108, 48]⟩, .string ⟨#[111, 117, 116]⟩, .string ⟨#[108, 49]⟩, .string ⟨#[105, 48]⟩, .string ⟨#[111, 48]⟩, .string ⟨#[97, 45, 98]⟩] 9)).heap.size := by simp
        have p0 := h5.pb.cell 0
        simp only [List.getElem?_toArray, List.getElem?_cons_zero, List.getElem?_cons_succ] at p0
        clear h4 hk4 hbr4 hbh loS hkr
        go_upto_region 6 with fail
        have HP5 := Lib.hid (h5.call (by omega) 7 (by decide) (by decide))
        go_wp2_with fail
        refine HP5.out.mono ?_
        rintro e w6 ⟨rfl, h6, hk6, hs6⟩
        have hlt7 := Fm.pick_lt (zs.map Int.toNat) 7 a2 (by decide)
        have hbS6 := hk6.blkOf hbS (by have := h6.b2; have := h6.b3; omega)
        have hbr6 := hk6.blkOf hbr5 (by have := h6.b2; have := h6.b3; omega)
        have hbh6 := hk6.blkOf hbh5 (by have := h6.b2; have := h6.b3; omega)
        have hkB := hk5.trans hk6
        have hmk : bm < hb := by omega
        have HNM : Hid (Fm.nameM (zs.map Int.toNat) 3 a2 = (Fm.namesL.getD (Fm.pickS (zs.map Int.toNat) 7 a2) [], a2 + 1)) := by unfold Hid Fm.nameM; rw [if_pos rfl]
        generalize Fm.pickS (zs.map Int.toNat) 7 a2 = p7 at *
        have hix := ixS7 W4.heap.size p7 hlt7
        have hSc : w6.cell? ⟨W4.heap.size, p7, none⟩ = some (.string (bsv (Fm.namesL.getD p7 []))) := by
          rw [hbS6.cell]
          exact names_cell p7 hlt7
        generalize Fm.namesL.getD p7 [] = nm at *
        have e1 := hbh6.cell 1
        have e1f := hbh6.frozen 1
        simp only [List.getElem?_toArray, List.getElem?_cons_zero, List.getElem?_cons_succ] at e1
        have hbhX : Blk (w6.setCell ⟨hb, 1, none⟩ (.string (bsv nm))) hb 24 #[.int .i64 3, .string (bsv nm), .int .i64 0, .slice none 0 0] := by simpa using hbh6.put 1 (.string (bsv nm))
        have hMX := h6.far (p := ⟨hb, 1, none⟩) hmk (.string (bsv nm))
        have hkX := hkB.far (p := ⟨hb, 1, none⟩) (by simp only; omega) (.string (bsv nm))
        have hbrX := hbr6.far (p := ⟨hb, 1, none⟩) (by simp only; omega) (.string (bsv nm))
        clear h5 hk5 hbr5 hbh5 hbS hbS6 HP5 hk6 hbr6 hbh6 hkB hs6 h6 p0
        go_upto_region 7 with fail
        generalize w6.setCell ⟨hb, 1, none⟩ (.string (bsv nm)) = W7 at *
        clear hSc e1 e1f hix
        go_wp2_with fail
        refine (HKI.out _).mono ?_
        rintro e w8 ⟨rfl, rfl⟩
        have HE : Hid (Fm.makeS (zs.map Int.toNat) d a = (.mk 3 nm 0 [], a2 + 1)) := by
          unfold Hid
          rw [HE0.out (Fm.makeS (zs.map Int.toNat) (d - 1)) (fun d' hd' => by subst hd'; rfl), HNM.out, kidN_3 (by decide)]
          rfl
        have hM := hMX
        have hk := hkX
        have hbr := hbrX
        have hbh := hbhX
        have hF : FV W7 (fun b => W.heap.size < b ∧ b < W7.heap.size ∧ Reg W7 b) (.mk 3 nm 0 []) (.agg #[.int .i64 3, .string (bsv nm), .int .i64 0, .slice none 0 0]) := FV.mk (A := none) (c := 0) (FL.nil _ _ _ _)
        clear hMX hkX hbrX hbhX HE0 HNM
        go_wp2
        go_loopw [9] (fun i wr => i = .int .i64 0 ∧ W7 = wr) (fun _ _ => 0)
        case atStart => exact ⟨rfl, rfl⟩
        case round =>
          obtain ⟨rfl, rfl⟩ := hrel
          have hKn : ¬ (W.heap.size < W.heap.size ∧ W.heap.size < W7.heap.size ∧ Reg W7 W.heap.size) := fun h => by have := h.1; omega
          have hF1 : FV W7 (fun b => W.heap.size < b ∧ b < W7.heap.size ∧ Reg W7 b) _ (.agg #[.int .i64 3, .string (bsv nm), .int .i64 0, .slice none 0 0]) := hF
          have hF9 := (((hF1.far (p := ⟨W.heap.size, 0, none⟩) hKn (.int .i64 3)).far (p := ⟨W.heap.size, 1, none⟩) hKn (.string (bsv nm))).far (p := ⟨W.heap.size, 2, none⟩) hKn (.int .i64 0)).far (p := ⟨W.heap.size, 3, none⟩) hKn (.slice none 0 0)
          have hF9b := hF9.more (K' := fun b => Fr W.heap.size (((((W7).setCell ⟨W.heap.size, 0, none⟩ (.int .i64 3)).setCell ⟨W.heap.size, 1, none⟩ (.string (bsv nm))).setCell ⟨W.heap.size, 2, none⟩ (.int .i64 0)).setCell ⟨W.heap.size, 3, none⟩ (.slice none 0 0)).heap.size b ∧ Reg (((((W7).setCell ⟨W.heap.size, 0, none⟩ (.int .i64 3)).setCell ⟨W.heap.size, 1, none⟩ (.string (bsv nm))).setCell ⟨W.heap.size, 2, none⟩ (.int .i64 0)).setCell ⟨W.heap.size, 3, none⟩ (.slice none 0 0)) b) (fun b hb => ⟨⟨by have := hb.1; omega, by have := hb.2.1; simp; omega⟩, by have := hb.1; exact (((hb.2.2.far (by simp only; omega) _).far (by simp only; omega) _).far (by simp only; omega) _).far (by simp only; omega) _⟩)
          have hM9 : MK (((((W7).setCell ⟨W.heap.size, 0, none⟩ (.int .i64 3)).setCell ⟨W.heap.size, 1, none⟩ (.string (bsv nm))).setCell ⟨W.heap.size, 2, none⟩ (.int .i64 0)).setCell ⟨W.heap.size, 3, none⟩ (.slice none 0 0)) B bl ba bp bm A c zs _ := (((hM.far (p := ⟨W.heap.size, 0, none⟩) hmr (.int .i64 3)).far (p := ⟨W.heap.size, 1, none⟩) hmr (.string (bsv nm))).far (p := ⟨W.heap.size, 2, none⟩) hmr (.int .i64 0)).far (p := ⟨W.heap.size, 3, none⟩) hmr (.slice none 0 0)
          have hk9 : RKeep ba W (((((W7).setCell ⟨W.heap.size, 0, none⟩ (.int .i64 3)).setCell ⟨W.heap.size, 1, none⟩ (.string (bsv nm))).setCell ⟨W.heap.size, 2, none⟩ (.int .i64 0)).setCell ⟨W.heap.size, 3, none⟩ (.slice none 0 0)) := (((hk.far (p := ⟨W.heap.size, 0, none⟩) (Nat.le_refl _) _).far (p := ⟨W.heap.size, 1, none⟩) (Nat.le_refl _) _).far (p := ⟨W.heap.size, 2, none⟩) (Nat.le_refl _) _).far (p := ⟨W.heap.size, 3, none⟩) (Nat.le_refl _) _
          have hC9 : Blk (((((W7).setCell ⟨W.heap.size, 0, none⟩ (.int .i64 3)).setCell ⟨W.heap.size, 1, none⟩ (.string (bsv nm))).setCell ⟨W.heap.size, 2, none⟩ (.int .i64 0)).setCell ⟨W.heap.size, 3, none⟩ (.slice none 0 0)) W.heap.size 24 #[.int .i64 3, .string (bsv nm), .int .i64 0, .slice none 0 0] := by simpa using (((hbr.put 0 (.int .i64 3)).put 1 (.string (bsv nm))).put 2 (.int .i64 0)).put 3 (.slice none 0 0)
          have HC9 := Lib.hid hC9
          have HM9 := Lib.hid hM9
          have HK9 := Lib.hid hk9
          have HF9 := Lib.hid hF9b
          have r0 := hbr.cell 0
          have r1 := hbr.cell 1
          have r2 := hbr.cell 2
          have r3 := hbr.cell 3
          have g0 := hbh.cell 0
          have g1 := hbh.cell 1
          have g2 := hbh.cell 2
          have g3 := hbh.cell 3
          simp only [List.getElem?_toArray, List.getElem?_cons_zero, List.getElem?_cons_succ] at r0 r1 r2 r3 g0 g1 g2 g3
          have q0 := hbr.frozen 0
          have q1 := hbr.frozen 1
          have q2 := hbr.frozen 2
          have q3 := hbr.frozen 3
          clear hF hF1 hF9 hF9b hM hM9 hk hk9 hC9 hbr hbh hKn
          go_wp2
          clear r0 r1 r2 r3 q0 q1 q2 q3 g0 g1 g2 g3
          generalize ((((W7).setCell ⟨W.heap.size, 0, none⟩ (.int .i64 3)).setCell ⟨W.heap.size, 1, none⟩ (.string (bsv nm))).setCell ⟨W.heap.size, 2, none⟩ (.int .i64 0)).setCell ⟨W.heap.size, 3, none⟩ (.slice none 0 0) = V9 at *
          have t0 := HC9.out.cell 0
          have t1 := HC9.out.cell 1
          have t2 := HC9.out.cell 2
          have t3 := HC9.out.cell 3
          simp only [List.getElem?_toArray, List.getElem?_cons_zero, List.getElem?_cons_succ] at t0 t1 t2 t3
          refine bodyPost_ret (v := .agg #[.int .i64 3, .string (bsv nm), .int .i64 0, .slice none 0 0]) (by simp [results, Tryd.results35, go_sem, t0, t1, t2, t3]) rfl ?_
          rw [HE.out]
          exact ⟨_, rfl, HF9.out, HM9.out, HK9.out⟩
      · obtain rfl : k = 2 := by
          rcases hkf with h | h
          · exact h
          · exact absurd h hk3e
        have hkk : ((2 : Int) == 3) = false := by decide
        have hkr : kidR 2 = 0 := by decide
        have HKI : Hid (∀ V, Calls Tryd.prog 36 #[.int .i64 2] V fun e w' => e = .returned (.int .i64 0) ∧ V = w') := fun V => by
          have := rkids_any 2 V
          rw [hkr] at this
          exact this
        have HE : Hid (Fm.makeS (zs.map Int.toNat) d a = (.mk 2 [] 0 [], a2)) := by
          unfold Hid
          rw [HE0.out (Fm.makeS (zs.map Int.toNat) (d - 1)) (fun d' hd' => by subst hd'; rfl), name_other _ _ (by decide), kidN_3 (by decide)]
          rfl
        clear HE0 hkr
        go_wp2_with fail
        refine (HKI.out _).mono ?_
        rintro e w8 ⟨rfl, rfl⟩
        clear HKI
        have hM := h4
        have hk := hk4
        have hbr := hbr4
        have hF : FV W4 (fun b => W.heap.size < b ∧ b < W4.heap.size ∧ Reg W4 b) (.mk 2 [] 0 []) (.agg #[.int .i64 2, .string ⟨#[]⟩, .int .i64 0, .slice none 0 0]) := FV.mk (A := none) (c := 0) (FL.nil _ _ _ _)
        clear h4 hk4 hbr4
        go_wp2
        go_loopw [9] (fun i wr => i = .int .i64 0 ∧ W4 = wr) (fun _ _ => 0)
        case atStart => exact ⟨rfl, rfl⟩
        case round =>
          obtain ⟨rfl, rfl⟩ := hrel
          have hKn : ¬ (W.heap.size < W.heap.size ∧ W.heap.size < W4.heap.size ∧ Reg W4 W.heap.size) := fun h => by have := h.1; omega
          have hF1 : FV W4 (fun b => W.heap.size < b ∧ b < W4.heap.size ∧ Reg W4 b) _ (.agg #[.int .i64 2, .string ⟨#[]⟩, .int .i64 0, .slice none 0 0]) := hF
          have hF9 := (((hF1.far (p := ⟨W.heap.size, 0, none⟩) hKn (.int .i64 2)).far (p := ⟨W.heap.size, 1, none⟩) hKn (.string ⟨#[]⟩)).far (p := ⟨W.heap.size, 2, none⟩) hKn (.int .i64 0)).far (p := ⟨W.heap.size, 3, none⟩) hKn (.slice none 0 0)
          have hF9b := hF9.more (K' := fun b => Fr W.heap.size (((((W4).setCell ⟨W.heap.size, 0, none⟩ (.int .i64 2)).setCell ⟨W.heap.size, 1, none⟩ (.string ⟨#[]⟩)).setCell ⟨W.heap.size, 2, none⟩ (.int .i64 0)).setCell ⟨W.heap.size, 3, none⟩ (.slice none 0 0)).heap.size b ∧ Reg (((((W4).setCell ⟨W.heap.size, 0, none⟩ (.int .i64 2)).setCell ⟨W.heap.size, 1, none⟩ (.string ⟨#[]⟩)).setCell ⟨W.heap.size, 2, none⟩ (.int .i64 0)).setCell ⟨W.heap.size, 3, none⟩ (.slice none 0 0)) b) (fun b hb => ⟨⟨by have := hb.1; omega, by have := hb.2.1; simp; omega⟩, by have := hb.1; exact (((hb.2.2.far (by simp only; omega) _).far (by simp only; omega) _).far (by simp only; omega) _).far (by simp only; omega) _⟩)
          have hM9 : MK (((((W4).setCell ⟨W.heap.size, 0, none⟩ (.int .i64 2)).setCell ⟨W.heap.size, 1, none⟩ (.string ⟨#[]⟩)).setCell ⟨W.heap.size, 2, none⟩ (.int .i64 0)).setCell ⟨W.heap.size, 3, none⟩ (.slice none 0 0)) B bl ba bp bm A c zs _ := (((hM.far (p := ⟨W.heap.size, 0, none⟩) hmr (.int .i64 2)).far (p := ⟨W.heap.size, 1, none⟩) hmr (.string ⟨#[]⟩)).far (p := ⟨W.heap.size, 2, none⟩) hmr (.int .i64 0)).far (p := ⟨W.heap.size, 3, none⟩) hmr (.slice none 0 0)
          have hk9 : RKeep ba W (((((W4).setCell ⟨W.heap.size, 0, none⟩ (.int .i64 2)).setCell ⟨W.heap.size, 1, none⟩ (.string ⟨#[]⟩)).setCell ⟨W.heap.size, 2, none⟩ (.int .i64 0)).setCell ⟨W.heap.size, 3, none⟩ (.slice none 0 0)) := (((hk.far (p := ⟨W.heap.size, 0, none⟩) (Nat.le_refl _) _).far (p := ⟨W.heap.size, 1, none⟩) (Nat.le_refl _) _).far (p := ⟨W.heap.size, 2, none⟩) (Nat.le_refl _) _).far (p := ⟨W.heap.size, 3, none⟩) (Nat.le_refl _) _
          have hC9 : Blk (((((W4).setCell ⟨W.heap.size, 0, none⟩ (.int .i64 2)).setCell ⟨W.heap.size, 1, none⟩ (.string ⟨#[]⟩)).setCell ⟨W.heap.size, 2, none⟩ (.int .i64 0)).setCell ⟨W.heap.size, 3, none⟩ (.slice none 0 0)) W.heap.size 24 #[.int .i64 2, .string ⟨#[]⟩, .int .i64 0, .slice none 0 0] := by simpa using (((hbr.put 0 (.int .i64 2)).put 1 (.string ⟨#[]⟩)).put 2 (.int .i64 0)).put 3 (.slice none 0 0)
          have HC9 := Lib.hid hC9
          have HM9 := Lib.hid hM9
          have HK9 := Lib.hid hk9
          have HF9 := Lib.hid hF9b
          have r0 := hbr.cell 0
          have r1 := hbr.cell 1
          have r2 := hbr.cell 2
          have r3 := hbr.cell 3
          have g0 := hbh.cell 0
          have g1 := hbh.cell 1
          have g2 := hbh.cell 2
          have g3 := hbh.cell 3
          simp only [List.getElem?_toArray, List.getElem?_cons_zero, List.getElem?_cons_succ] at r0 r1 r2 r3 g0 g1 g2 g3
          have q0 := hbr.frozen 0
          have q1 := hbr.frozen 1
          have q2 := hbr.frozen 2
          have q3 := hbr.frozen 3
          clear hF hF1 hF9 hF9b hM hM9 hk hk9 hC9 hbr hbh hKn
          go_wp2
          clear r0 r1 r2 r3 q0 q1 q2 q3 g0 g1 g2 g3
          generalize ((((W4).setCell ⟨W.heap.size, 0, none⟩ (.int .i64 2)).setCell ⟨W.heap.size, 1, none⟩ (.string ⟨#[]⟩)).setCell ⟨W.heap.size, 2, none⟩ (.int .i64 0)).setCell ⟨W.heap.size, 3, none⟩ (.slice none 0 0) = V9 at *
          have t0 := HC9.out.cell 0
          have t1 := HC9.out.cell 1
          have t2 := HC9.out.cell 2
          have t3 := HC9.out.cell 3
          simp only [List.getElem?_toArray, List.getElem?_cons_zero, List.getElem?_cons_succ] at t0 t1 t2 t3
          refine bodyPost_ret (v := .agg #[.int .i64 2, .string ⟨#[]⟩, .int .i64 0, .slice none 0 0]) (by simp [results, Tryd.results35, go_sem, t0, t1, t2, t3]) rfl ?_
          rw [HE.out]
          exact ⟨_, rfl, HF9.out, HM9.out, HK9.out⟩
theorem make_all (B bl ba bp bm : Nat) (A : Option Addr) (c : Nat) (zs : List Int) : ∀ d, d ≤ 6 → MakeC B bl ba bp bm A c zs d
  | 0, h => make_step B bl ba bp bm A c zs 0 h (fun d' hd => by omega)
  | d + 1, h => make_step B bl ba bp bm A c zs (d + 1) h (fun d' hd => by
    obtain rfl : d' = d := by omega
    exact make_all B bl ba bp bm A c zs d' (by omega))
end Go.Proofs.YtlddnejjpekgeaaDoor
