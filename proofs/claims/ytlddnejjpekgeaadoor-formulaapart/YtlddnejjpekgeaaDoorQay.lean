/- Tokens: the texts of few pieces. -/
import Derived.Test.YtlddnejjpekgeaaDoorQax
import Derived.Test.YtlddnejjpekgeaaDoorQag
import Derived.Deep.CutRange
import Derived.Deep.DeepCutAuto
set_option linter.unusedSimpArgs false
set_option linter.unusedVariables false
namespace Go.Proofs.YtlddnejjpekgeaaDoor
open Go.RowKit
attribute [local go_sem] bsv_size

def piecesL : List Tk.Bs := [[65, 71], [69, 70], [69], [65], [85], [82], [69, 88], [97], [113], [108, 48], [33], [38], [124], [45, 62], [60, 45, 62], [40], [41], [91], [93], [32], [34, 120, 46, 121, 34], [34], [45], [60], [116, 114, 117, 101], [102, 97, 108, 115, 101], [65, 70], [10], [63], [69, 71]]
def pieceCells : Array Value := (piecesL.map (fun x => Value.string (bsv x))).toArray
theorem pieces_len : piecesL.length = 30 := rfl
theorem pieces_short : ∀ x ∈ piecesL, x.length ≤ 5 := by decide
theorem pieceCells_get (i : Nat) (h : i < 30) : pieceCells[i]? = some (.string (bsv (piecesL.getD i []))) := by
  have h' : i < piecesL.length := h
  unfold pieceCells
  rw [List.getElem?_toArray, List.getElem?_map, List.getElem?_eq_getElem h', List.getD_eq_getElem?_getD, List.getElem?_eq_getElem h']
  rfl
theorem piece_short (i : Nat) : (piecesL.getD i []).length ≤ 5 := by
  by_cases h : i < piecesL.length
  · rw [List.getD_eq_getElem?_getD, List.getElem?_eq_getElem h]
    exact pieces_short _ (List.getElem_mem h)
  · rw [List.getD_eq_getElem?_getD, List.getElem?_eq_none (by omega)]
    simp
/-- The text of some numbers. -/
def pcs (zs : List Int) : Tk.Bs := zs.flatMap (fun z => piecesL.getD (z.toNat % 30) [])
theorem pcs_len (zs : List Int) : (pcs zs).length ≤ 5 * zs.length := by
  induction zs with
  | nil => exact Nat.le_refl _
  | cons z r ih =>
    have := piece_short (z.toNat % 30)
    simp only [pcs, List.flatMap_cons, List.length_append, List.length_cons] at ih ⊢
    omega
theorem pcs_snoc (zs : List Int) (z : Int) : pcs (zs ++ [z]) = pcs zs ++ piecesL.getD (z.toNat % 30) [] := by simp [pcs]
def piecesS (zs : List Int) : Tk.Bs := pcs (zs.take 20)
theorem piecesS_len (zs : List Int) : (piecesS zs).length ≤ 100 := by
  have := pcs_len (zs.take 20)
  rw [List.length_take] at this
  unfold piecesS
  omega
theorem ixS30 (sb r : Nat) (hr : r < 30) (w : World) : (Instr.indexAt 48 (.slice (some ⟨sb, 0, none⟩) 30 30) (.int .i64 (r : Int))).run Tryd.prog w = .ok (.pointer (some ⟨sb, r, none⟩)) w := by
  have h1 : (r : Int) < 30 := by omega
  go_simp
theorem add_bsv (u x : Tk.Bs) (h : u.length + x.length ≤ 100000) (w : World) : (Op.stringOp .add (bsv u) (bsv x)).run Tryd.prog w = .ok (.string (bsv (u ++ x))) w := by
  rw [run_string_add_sum w _ _ (by rw [bsv_size, bsv_size]; omega)]
  refine congrArg (fun s => Result.ok (Value.string s) w) ?_
  apply ByteArray.ext
  simp [bsv]
set_option maxRecDepth 100000 in
set_option maxHeartbeats 4000000 in
theorem pieces_any (A : Option Addr) (c : Nat) (zs : List Int) (w : World) (hml : zs.length ≤ maxLen) (hU : Ub w w.heap.size A zs) :
    Calls Tryd.prog 26 #[.slice A zs.length c] w fun e w' => e = .returned (.string (bsv (piecesS zs))) ∧ Below w.heap.size w w' := by
  have hml2 : zs.length ≤ 9223372036854775807 := by
    have : maxLen ≤ 9223372036854775807 := by decide
    omega
  clear hml
  go_enter Tryd.func26, Tryd.ntmps26
  go_wp2
  have lo : Below w.heap.size w (w.alloc (Obj.cells #[.string ⟨#[65, 71]⟩, .string ⟨#[69, 70]⟩, .string ⟨#[69]⟩, .string ⟨#[65]⟩, .string ⟨#[85]⟩, .string ⟨#[82]⟩, .string ⟨#[69, 88]⟩, .string ⟨#[97]⟩, .string ⟨#[113]⟩, .string ⟨#[108, 48]⟩, .string ⟨#[33]⟩, .string ⟨#[38]⟩, .string ⟨#[124]⟩, .string ⟨#[45, 62]⟩, .string ⟨#[60, 45, 62]⟩, .string ⟨#[40]⟩, .string ⟨#[41]⟩, .string ⟨#[91]⟩, .string ⟨#[93]⟩, .string ⟨#[32]⟩, .string ⟨#[34, 120, 46, 121, 34]⟩, .string ⟨#[34]⟩, .string ⟨#[45]⟩, .string ⟨#[60]⟩, .string ⟨#[116, 114, 117, 101]⟩, .string ⟨#[102, 97, 108, 115, 101]⟩, .string ⟨#[65, 70]⟩, .string ⟨#[10]⟩, .string ⟨#[63]⟩, .string ⟨#[69, 71]⟩] 9)) := lowAlloc w _
  have hB : Blk (w.alloc (Obj.cells #[.string ⟨#[65, 71]⟩, .string ⟨#[69, 70]⟩, .string ⟨#[69]⟩, .string ⟨#[65]⟩, .string ⟨#[85]⟩, .string ⟨#[82]⟩, .string ⟨#[69, 88]⟩, .string ⟨#[97]⟩, .string ⟨#[113]⟩, .string ⟨#[108, 48]⟩, .string ⟨#[33]⟩, .string ⟨#[38]⟩, .string ⟨#[124]⟩, .string ⟨#[45, 62]⟩, .string ⟨#[60, 45, 62]⟩, .string ⟨#[40]⟩, .string ⟨#[41]⟩, .string ⟨#[91]⟩, .string ⟨#[93]⟩, .string ⟨#[32]⟩, .string ⟨#[34, 120, 46, 121, 34]⟩, .string ⟨#[34]⟩, .string ⟨#[45]⟩, .string ⟨#[60]⟩, .string ⟨#[116, 114, 117, 101]⟩, .string ⟨#[102, 97, 108, 115, 101]⟩, .string ⟨#[65, 70]⟩, .string ⟨#[10]⟩, .string ⟨#[63]⟩, .string ⟨#[69, 71]⟩] 9)) w.heap.size 9 pieceCells := Blk.new w 9 pieceCells
  have hU2 := hU.below lo (Nat.le_refl _)
  generalize (w.alloc (Obj.cells #[.string ⟨#[65, 71]⟩, .string ⟨#[69, 70]⟩, .string ⟨#[69]⟩, .string ⟨#[65]⟩, .string ⟨#[85]⟩, .string ⟨#[82]⟩, .string ⟨#[69, 88]⟩, .string ⟨#[97]⟩, .string ⟨#[113]⟩, .string ⟨#[108, 48]⟩, .string ⟨#[33]⟩, .string ⟨#[38]⟩, .string ⟨#[124]⟩, .string ⟨#[45, 62]⟩, .string ⟨#[60, 45, 62]⟩, .string ⟨#[40]⟩, .string ⟨#[41]⟩, .string ⟨#[91]⟩, .string ⟨#[93]⟩, .string ⟨#[32]⟩, .string ⟨#[34, 120, 46, 121, 34]⟩, .string ⟨#[34]⟩, .string ⟨#[45]⟩, .string ⟨#[60]⟩, .string ⟨#[116, 114, 117, 101]⟩, .string ⟨#[102, 97, 108, 115, 101]⟩, .string ⟨#[65, 70]⟩, .string ⟨#[10]⟩, .string ⟨#[63]⟩, .string ⟨#[69, 71]⟩] 9)) = V at *
  clear hU
  go_loopw [4, 5] (fun t i W => ∃ k : Nat, k ≤ zs.length ∧ k ≤ 20 ∧ i = .int .i64 (k : Int) ∧ t = .string (bsv (pcs (zs.take k))) ∧ V = W) (fun _ i _ => 20 - (intOf i).toNat)
  case atStart => exact ⟨0, Nat.zero_le _, Nat.zero_le _, rfl, rfl, rfl⟩
  case round =>
    obtain ⟨k, hk, hk20, rfl, rfl, rfl⟩ := hrel
    by_cases hlt : k < zs.length
    · have dl : decide ((k : Int) < (zs.length : Int)) = true := decide_eq_true (by omega)
      by_cases h20 : k < 20
      · have d20 : decide ((k : Int) < 20) = true := decide_eq_true (by omega)
        obtain ⟨b, off, rfl, _, g1, g2, g3⟩ := hU2 k hlt
        have hix := ixU8 b off zs.length c k hml2 hlt
        have HT : Hid (pcs (zs.take (k + 1)) = pcs (zs.take k) ++ piecesL.getD ((zs[k]).toNat % 30) []) := by
          unfold Hid
          rw [← pcs_snoc, List.take_add_one, List.getElem?_eq_getElem hlt]
          rfl
        have hsl := pcs_len (zs.take k)
        rw [List.length_take] at hsl
        generalize zs[k] = z at *
        obtain ⟨m, rfl⟩ : ∃ m : Nat, z = (m : Int) := ⟨z.toNat, by omega⟩
        rw [Int.toNat_natCast] at HT
        have hm : m % 30 < 30 := Nat.mod_lt _ (by omega)
        have ck := (hB.cell (m % 30)).trans (pieceCells_get _ hm)
        have hx0 := ixS30 w.heap.size (m % 30) hm
        have hx1 : ∀ W, (Instr.indexAt 48 (.slice (some ⟨w.heap.size, 0, none⟩) 30 30) (.int .i64 ((m : Int).tmod 30))).run Tryd.prog W = .ok (.pointer (some ⟨w.heap.size, m % 30, none⟩)) W := hx0
        have hps := piece_short (m % 30)
        generalize piecesL.getD (m % 30) [] = x at *
        have hadd := add_bsv (pcs (zs.take k)) x (by omega)
        clear hx0 hx1
        generalize pcs (zs.take k) = u at *
        go_wp2
        go_roundw
        case rel => exact ⟨k + 1, by omega, by omega, by go_num, by rw [HT.out], trivial⟩
        case measure => simp [intOf]; omega
      · obtain rfl : k = 20 := by omega
        have HP : Hid (piecesS zs = pcs (zs.take 20)) := rfl
        generalize pcs (zs.take 20) = u at *
        go_wp2
        go_ret
        exact ⟨by rw [HP.out]; rfl, lo⟩
    · have dl : decide ((k : Int) < (zs.length : Int)) = false := decide_eq_false (by omega)
      have HP : Hid (piecesS zs = pcs (zs.take k)) := by
        unfold Hid piecesS
        rw [List.take_of_length_le (show zs.length ≤ k by omega), List.take_of_length_le (show zs.length ≤ 20 by omega)]
      generalize pcs (zs.take k) = u at *
      go_wp2
      go_ret
      exact ⟨by rw [HP.out]; rfl, lo⟩
end Go.Proofs.YtlddnejjpekgeaaDoor
/- TokenBack's walk: the texts of a text's tokens, with blanks between, are the same tokens. -/
namespace Go.Proofs.YtlddnejjpekgeaaDoor
open Go.RowKit
attribute [local go_sem] bsv_size

/-- A token's kind and text. -/
def wd (t : Tk.Tok) : Nat × Tk.Bs := (t.k, t.t)
theorem join_take_len (l : List (Nat × Tk.Bs)) (k : Nat) : (Tk.joinS (l.take k)).length ≤ (Tk.joinS l).length := by
  have : Tk.joinS l = Tk.joinS (l.take k) ++ Tk.joinS (l.drop k) := by
    unfold Tk.joinS
    rw [← List.flatMap_append, List.take_append_drop]
  rw [this, List.length_append]
  omega
theorem join_step (ts : List Tk.Tok) (k : Nat) (h : k < ts.length) : Tk.joinS ((ts.map wd).take (k + 1)) = (Tk.joinS ((ts.map wd).take k) ++ [32]) ++ (ts[k]).t := by
  rw [List.take_add_one, List.getElem?_map, List.getElem?_eq_getElem h]
  simp only [Option.map_some, Option.toList_some]
  rw [Tk.join_snoc]
  simp [wd]
end Go.Proofs.YtlddnejjpekgeaaDoor
/- Formulas by numbers: the reference's Kids; pick. -/
namespace Go.Proofs.YtlddnejjpekgeaaDoor
open Go.RowKit

/-- What the reference's Kids answers. -/
def kidR (k : Int) : Int := match Fm.kidsN k with | some n => (n : Int) | none => -1
theorem kidR_some {k : Int} (h1 : 1 ≤ k) (h2 : k ≤ 18) : kidR k = (Fm.kidN k : Int) := by
  unfold kidR
  rw [Fm.kidsN_some h1 h2]
set_option maxRecDepth 10000 in
set_option maxHeartbeats 4000000 in
theorem rkids_any (k : Int) (w : World) : Calls Tryd.prog 36 #[.int .i64 k] w fun e w' => e = .returned (.int .i64 (kidR k)) ∧ w = w' := by
  by_cases g0 : k < 1
  · have HV : Hid (kidR k = -1) := by
      unfold Hid kidR Fm.kidsN
      rw [if_neg (by omega), if_neg (by omega), if_neg (by omega)]
    have hx : k < 1 := by omega
    clear g0
    go_enter Tryd.func36, Tryd.ntmps36
    go_wp2
    go_ret
    exact ⟨by rw [HV.out]; rfl, rfl⟩
  by_cases g1 : 18 < k
  · have HV : Hid (kidR k = -1) := by
      unfold Hid kidR Fm.kidsN
      rw [if_neg (by omega), if_neg (by omega), if_neg (by omega)]
    have a1x : ¬ k < 1 := by omega
    have hx : 18 < k := by omega
    clear g0 g1
    go_enter Tryd.func36, Tryd.ntmps36
    go_wp2
    go_ret
    exact ⟨by rw [HV.out]; rfl, rfl⟩
  by_cases g2 : k ≤ 3
  · have HV : Hid (kidR k = 0) := by
      unfold Hid kidR Fm.kidsN
      rw [if_pos (by omega)]
      rfl
    have a1x : ¬ k < 1 := by omega
    have a2x : ¬ 18 < k := by omega
    have hx : k ≤ 3 := by omega
    clear g0 g1 g2
    go_enter Tryd.func36, Tryd.ntmps36
    go_wp2
    go_ret
    exact ⟨by rw [HV.out]; rfl, rfl⟩
  by_cases g3 : k = 4
  · have HV : Hid (kidR k = 1) := by
      unfold Hid kidR Fm.kidsN
      rw [if_neg (by omega), if_pos (by omega)]
      rfl
    have a1x : ¬ k < 1 := by omega
    have a2x : ¬ 18 < k := by omega
    have a3x : ¬ k ≤ 3 := by omega
    have hx : (k == 4) = true := by rw [beq_iff_eq]; omega
    clear g0 g1 g2 g3
    go_enter Tryd.func36, Tryd.ntmps36
    go_wp2
    go_ret
    exact ⟨by rw [HV.out]; rfl, rfl⟩
  by_cases g4 : k < 9
  · have HV : Hid (kidR k = 2) := by
      unfold Hid kidR Fm.kidsN
      rw [if_neg (by omega), if_neg (by omega), if_pos (by omega)]
      rfl
    have a1x : ¬ k < 1 := by omega
    have a2x : ¬ 18 < k := by omega
    have a3x : ¬ k ≤ 3 := by omega
    have a4x : (k == 4) = false := by rw [beq_eq_false_iff_ne]; omega
    have a5x : ¬ 9 ≤ k := by omega
    clear g0 g1 g2 g3 g4
    go_enter Tryd.func36, Tryd.ntmps36
    go_wp2
    go_ret
    exact ⟨by rw [HV.out]; rfl, rfl⟩
  by_cases g5 : k ≤ 14
  · have HV : Hid (kidR k = 1) := by
      unfold Hid kidR Fm.kidsN
      rw [if_neg (by omega), if_pos (by omega)]
      rfl
    have a1x : ¬ k < 1 := by omega
    have a2x : ¬ 18 < k := by omega
    have a3x : ¬ k ≤ 3 := by omega
    have a4x : (k == 4) = false := by rw [beq_eq_false_iff_ne]; omega
    have a5x : 9 ≤ k := by omega
    have a6x : k ≤ 14 := by omega
    clear g0 g1 g2 g3 g4 g5
    go_enter Tryd.func36, Tryd.ntmps36
    go_wp2
    go_ret
    exact ⟨by rw [HV.out]; rfl, rfl⟩
  skip
  have HV : Hid (kidR k = 2) := by
    unfold Hid kidR Fm.kidsN
    rw [if_neg (by omega), if_neg (by omega), if_pos (by omega)]
    rfl
  have a1x : ¬ k < 1 := by omega
  have a2x : ¬ 18 < k := by omega
  have a3x : ¬ k ≤ 3 := by omega
  have a4x : (k == 4) = false := by rw [beq_eq_false_iff_ne]; omega
  have a5x : 9 ≤ k := by omega
  have a6x : ¬ k ≤ 14 := by omega
  clear g0 g1 g2 g3 g4 g5
  go_enter Tryd.func36, Tryd.ntmps36
  go_wp2
  go_ret
  exact ⟨by rw [HV.out]; rfl, rfl⟩
theorem Ub.set {w : World} {B : Nat} {A : Option Addr} {zs : List Int} (h : Ub w B A zs) {p : Addr} (hp : B ≤ p.block) (u : Value) : Ub (w.setCell p u) B A zs := by
  intro k hk
  obtain ⟨b, off, rfl, hlt, h1, h2⟩ := h k hk
  exact ⟨b, off, rfl, hlt, (World.cell?_setCell_other _ _ _ _ (fun e => by have := congrArg Addr.block e; simp at this; omega)).trans h1, h2⟩
set_option maxRecDepth 100000 in
set_option maxHeartbeats 2000000 in
theorem mpick_any (ab lb : Nat) (A : Option Addr) (c : Nat) (zs : List Int) (a n : Nat) (w : World) (B : Nat) (hB : B ≤ ab) (hU : Ub w B A zs) (hlen : zs.length ≤ maxLen) (ha : a ≤ 100000) (hn : 0 < n) (hn1 : n ≤ 65536) (hne : lb ≠ ab)
    (h0 : w.cell? ⟨ab, 0, none⟩ = some (.int .i64 (a : Int))) (hf : w.frozen? ⟨ab, 0, none⟩ = false) (h1 : w.cell? ⟨lb, 0, none⟩ = some (.slice A zs.length c)) :
    Calls Tryd.prog 34 #[.int .i64 (n : Int), .pointer (some ⟨ab, 0, none⟩), .pointer (some ⟨lb, 0, none⟩)] w fun e w' => e = .returned (.int .i64 (Fm.pickS (zs.map Int.toNat) n a : Nat)) ∧ w.setCell ⟨ab, 0, none⟩ (.int .i64 ((a : Int) + 1)) = w' := by
  unfold maxLen at hlen
  have hset : (w.setCell ⟨ab, 0, none⟩ (.int .i64 ((a : Int) + 1))).cell? ⟨ab, 0, none⟩ = some (.int .i64 ((a : Int) + 1)) := World.cell?_setCell_same _ _ _ h0
  have hset1 : (w.setCell ⟨ab, 0, none⟩ (.int .i64 ((a : Int) + 1))).cell? ⟨lb, 0, none⟩ = some (.slice A zs.length c) := (World.cell?_setCell_other _ _ _ _ (fun e => hne (by have := congrArg Addr.block e; simpa using this.symm))).trans h1
  have hU2 := hU.set (p := ⟨ab, 0, none⟩) hB (.int .i64 ((a : Int) + 1))
  by_cases hlt : a < zs.length
  · obtain ⟨b, off, hA, hbB, z1, z2, z3⟩ := hU2 a hlt
    have HP : Hid (((Fm.pickS (zs.map Int.toNat) n a : Nat) : Int) = zs[a] % (n : Int)) := by
      unfold Hid Fm.pickS
      rw [if_neg (by rw [List.length_map]; omega)]
      have e : (zs.map Int.toNat).getD a 0 = (zs[a]).toNat := by
        rw [List.getD_eq_getElem?_getD, List.getElem?_map, List.getElem?_eq_getElem hlt]
        rfl
      rw [e, Int.natCast_emod]
      congr 1
      omega
    generalize Fm.pickS (zs.map Int.toNat) n a = y at *
    generalize zs[a] = z at *
    subst hA
    have hix := ixU8 b off zs.length c a (by omega) hlt
    have hd : decide ((zs.length : Int) < (a : Int) + 1) = false := decide_eq_false (by omega)
    have hnz : ((n : Int) == 0) = false := by rw [beq_eq_false_iff_ne]; omega
    have htm : z.tmod (n : Int) = z % (n : Int) := Int.tmod_eq_emod_of_nonneg z2
    have HM1 := Int.emod_nonneg z (show (n : Int) ≠ 0 by omega)
    have HM2 := Int.emod_lt_of_pos z (show (0 : Int) < (n : Int) by omega)
    go_enter Tryd.func34, Tryd.ntmps34
    go_upto_region 2 with fail
    generalize hVe : w.setCell ⟨ab, 0, none⟩ (.int .i64 ((a : Int) + 1)) = V at *
    have HV := Lib.hid hVe
    clear h0 h1 hf hVe
    go_wp2
    go_ret
    exact ⟨by rw [HP.out]; first | rfl | (simp [htm]), HV.out⟩
  · have HP : Hid (Fm.pickS (zs.map Int.toNat) n a = 0) := by
      unfold Hid Fm.pickS
      rw [if_pos (by rw [List.length_map]; omega)]
    generalize Fm.pickS (zs.map Int.toNat) n a = y at *
    have hd : decide ((zs.length : Int) < (a : Int) + 1) = true := decide_eq_true (by omega)
    go_enter Tryd.func34, Tryd.ntmps34
    go_upto_region 2 with fail
    generalize hVe : w.setCell ⟨ab, 0, none⟩ (.int .i64 ((a : Int) + 1)) = V at *
    have HV := Lib.hid hVe
    clear h0 h1 hf hVe
    go_wp2
    go_ret
    exact ⟨by rw [HP.out]; rfl, HV.out⟩
end Go.Proofs.YtlddnejjpekgeaaDoor
/- Formulas by numbers: rows of formulas that grow; what Made keeps in its boxes. -/
namespace Go.Proofs.YtlddnejjpekgeaaDoor
open Go.RowKit

theorem oper_app {o : Oper} {a : Act} {K : Act → World → Prop} {Q : Exit → Act → World → Prop} {w : World} (s x : Operand) (t : TypeId)
    (ho : o.op = .call { callee := .builtin .append, args := #[s, x], argTypes := #[t, t] }) (v arg : Value) (hs1 : a.eval s = v) (hx : a.eval x = arg) (R : Value → World → Prop)
    (hrun : ∀ ty, ∃ v' w', (Builtin.append_ #[t, t] ty #[v, arg]).run Tryd.prog w = .ok v' w' ∧ R v' w')
    (h : ∀ v' w', R v' w' → K (a.put o.dst v') w') : Oper.wp Tryd.prog o a w K Q := by
  obtain ⟨v', w', hr, hR⟩ := hrun o.type
  unfold Oper.wp execOp
  simp only [ho, resolve, invoke, builtin, Sem.run_bind, Sem.run_pure, Result.andThen_ok, List.map_toArray, List.map_cons, List.map_nil, hs1, hx, hr]
  exact h v' w' hR


theorem app_form (w : World) (base : Nat) (ty : TypeId) (v : Value) (n : Nat) (xs : List Value) (hown : w.ownsRow base 24 4 v n xs) (b c : Nat) (k : Int) (s : ByteArray) (l : Int) (A : Option Addr) (m cc : Nat) (hbk : Blk w b 24 #[.int .i64 k, .string s, .int .i64 l, .slice A m cc]) (hn : n ≤ 100000) (hbase : base ≤ w.heap.size) :
    ∃ v' w', (Builtin.append_ #[22, 22] ty #[v, .slice (some ⟨b, 0, none⟩) 1 c]).run Tryd.prog w = .ok v' w' ∧ w'.ownsRow base 24 4 v' (n + 1) (xs ++ [.int .i64 k, .string s, .int .i64 l, .slice A m cc]) ∧ w.grownBy w' v.ownBlock ∧ (v'.ownBlock = v.ownBlock ∨ v'.ownBlock = some w.heap.size) :=
  app_own w base 22 ty 24 Tryd.t24 (.agg #[.int .i64 0, .string ⟨#[]⟩, .int .i64 0, .slice none 0 0]) 4 56 Tryd.underlying22 (by kernel_rfl) (by kernel_rfl) (by kernel_rfl) (by kernel_rfl) (by omega) (by kernel_rfl) (by omega) v n xs hown b c [.int .i64 k, .string s, .int .i64 l, .slice A m cc] hbk rfl (fun u hu => by simp at hu; rcases hu with rfl | rfl | rfl | rfl <;> rfl) hn hbase
/-- A block of cells that may be written. -/
def Reg (w : World) (b : Nat) : Prop := ∃ t cs, Blk w b t cs
theorem Reg.keep {w w' : World} {b : Nat} (h : Reg w b) (hk : w'.heap[b]? = w.heap[b]?) : Reg w' b := by
  obtain ⟨t, cs, h⟩ := h
  exact ⟨t, cs, h.keep hk⟩
theorem Reg.below {w w' : World} {b B : Nat} (h : Reg w b) (hb : Below B w w') (hg : b < B) : Reg w' b := h.keep (hb.block b hg)
theorem Reg.far {w : World} {b : Nat} (h : Reg w b) {p : Addr} (hp : b ≠ p.block) (u : Value) : Reg (w.setCell p u) b := h.keep (Below.heap_setCell w p u b hp)
theorem Reg.lt {w : World} {b : Nat} (h : Reg w b) : b < w.heap.size := by
  obtain ⟨t, cs, h⟩ := h
  exact h.lt
theorem Reg.rk {w w' : World} {R b : Nat} (h : Reg w b) (hk : RKeep R w w') (hn : b ≠ R) : Reg w' b := h.keep (hk.blk b h.lt hn)
theorem Reg.grown {w w' : World} {row : Option Nat} {b : Nat} (h : Reg w b) (hg : w.grownBy w' row) (hn : row ≠ some b) : Reg w' b := h.keep (hg.block b h.lt (fun e => hn e.symm))
/-- The cells hold the formulas, whose parts lie in blocks of a kind. -/
def KCs (w : World) (K : Nat → Prop) : List Fm.F → List Value → Prop
  | [], [] => True
  | f :: r, v0 :: v1 :: v2 :: v3 :: cs => FV w K f (.agg #[v0, v1, v2, v3]) ∧ KCs w K r cs
  | _, _ => False
theorem KCs.keep {w w' : World} {K K' : Nat → Prop} (hk : ∀ p : Addr, K p.block → w'.cell? p = w.cell? p) (hB : ∀ b, K b → K' b) : ∀ (fs : List Fm.F) (cs : List Value), KCs w K fs cs → KCs w' K' fs cs
  | [], [], _ => trivial
  | [], _ :: _, h => h.elim
  | _ :: _, [], h => h.elim
  | _ :: _, [_], h => h.elim
  | _ :: _, [_, _], h => h.elim
  | _ :: _, [_, _, _], h => h.elim
  | f :: r, v0 :: v1 :: v2 :: v3 :: cs, h => ⟨FV.keep hk hB f _ h.1, KCs.keep hk hB r cs h.2⟩
theorem KCs.len {w : World} {K : Nat → Prop} : ∀ (fs : List Fm.F) (cs : List Value), KCs w K fs cs → cs.length = fs.length * 4
  | [], [], _ => rfl
  | [], _ :: _, h => h.elim
  | _ :: _, [], h => h.elim
  | _ :: _, [_], h => h.elim
  | _ :: _, [_, _], h => h.elim
  | _ :: _, [_, _, _], h => h.elim
  | f :: r, v0 :: v1 :: v2 :: v3 :: cs, h => by
    have := KCs.len r cs h.2
    simp only [List.length_cons]
    omega
theorem KCs.snoc {w : World} {K : Nat → Prop} {g : Fm.F} {u0 u1 u2 u3 : Value} (hg : FV w K g (.agg #[u0, u1, u2, u3])) : ∀ (fs : List Fm.F) (cs : List Value), KCs w K fs cs → KCs w K (fs ++ [g]) (cs ++ [u0, u1, u2, u3])
  | [], [], _ => ⟨hg, trivial⟩
  | [], _ :: _, h => h.elim
  | _ :: _, [], h => h.elim
  | _ :: _, [_], h => h.elim
  | _ :: _, [_, _], h => h.elim
  | _ :: _, [_, _, _], h => h.elim
  | f :: r, v0 :: v1 :: v2 :: v3 :: cs, h => ⟨h.1, KCs.snoc hg r cs h.2⟩
theorem KCs.fl {w : World} {K K' : Nat → Prop} (hK : ∀ b, K b → K' b) {g : Nat} (hg : K' g) : ∀ (fs : List Fm.F) (cs : List Value) (i : Nat), (∀ j u, cs[j]? = some u → w.cell? ⟨g, i * 4 + j, none⟩ = some u) → KCs w K fs cs → FL w K' fs (some ⟨g, 0, none⟩) i
  | [], _, i, _, _ => FL.nil w K' _ i
  | _ :: _, [], _, _, h => h.elim
  | _ :: _, [_], _, _, h => h.elim
  | _ :: _, [_, _], _, _, h => h.elim
  | _ :: _, [_, _, _], _, _, h => h.elim
  | f :: r, v0 :: v1 :: v2 :: v3 :: cs, i, hc, h =>
    FL.cons hg (by simpa using hc 0 v0 rfl) (by simpa using hc 1 v1 rfl) (by simpa using hc 2 v2 rfl) (by simpa using hc 3 v3 rfl) (h.1.more hK)
      (KCs.fl hK hg r cs (i + 1) (fun j u hj => by
        have := hc (j + 4) u (by simpa using hj)
        rw [show i * 4 + (j + 4) = (i + 1) * 4 + j by omega] at this
        exact this) h.2)
/-- A row of the call's own, as formulas in memory. -/
theorem KCs.row {w : World} {base n : Nat} {v : Value} {cs : List Value} {K K' : Nat → Prop} {fs : List Fm.F} (h : w.ownsRow base 24 4 v n cs) (hc : KCs w K fs cs) (hn : fs.length = n) (hK : ∀ b, K b → K' b) (hg : ∀ g, v.ownBlock = some g → Reg w g → K' g) :
    ∃ A c, v = .slice A n c ∧ FL w K' fs A 0 := by
  obtain ⟨_, h2⟩ := h
  rcases h2 with ⟨rfl, h0⟩ | ⟨g, cap, cur, rfl, _, hh, hnc, _, hs, ht⟩
  · have : fs = [] := List.length_eq_zero_iff.1 (by rw [hn, h0])
    subst this
    exact ⟨none, 0, by rw [h0], FL.nil _ _ _ _⟩
  · refine ⟨_, cap, rfl, KCs.fl hK (hg g rfl ⟨24, cur, hh⟩) fs cs 0 (fun j u hj => ?_) hc⟩
    have hj' := hj
    rw [← ht, List.getElem?_take_of_lt (by
      have := (List.getElem?_eq_some_iff.1 hj).1
      have h3 := KCs.len fs cs hc
      rw [hn] at h3
      omega)] at hj'
    rw [Blk.cell (t := 24) hh, ← Array.getElem?_toList]
    simpa using hj'
/-- The boxes of Made: its numbers (bl), the place (ba), pick (bp) and make (bm). -/
structure MK (W : World) (B bl ba bp bm : Nat) (A : Option Addr) (c : Nat) (zs : List Int) (a : Nat) : Prop where
  b0 : B ≤ bl
  b1 : bl < ba
  b2 : ba < bp
  b3 : bp < bm
  hU : Ub W B A zs
  hz : zs.length ≤ maxLen
  lb : Blk W bl 29 #[.slice A zs.length c]
  ab : Blk W ba 3 #[.int .i64 (a : Int)]
  pb : Blk W bp 62 #[.func (.func 34) #[] #[.pointer (some ⟨ba, 0, none⟩), .pointer (some ⟨bl, 0, none⟩)]]
  mb : Blk W bm 63 #[.func (.func 35) #[] #[.pointer (some ⟨bp, 0, none⟩), .pointer (some ⟨ba, 0, none⟩), .pointer (some ⟨bl, 0, none⟩), .pointer (some ⟨bm, 0, none⟩)]]
section
variable {W W' : World} {B bl ba bp bm : Nat} {A : Option Addr} {c : Nat} {zs : List Int} {a : Nat}
theorem MK.below (h : MK W B bl ba bp bm A c zs a) (hb : Below W.heap.size W W') : MK W' B bl ba bp bm A c zs a :=
  ⟨h.b0, h.b1, h.b2, h.b3, h.hU.below hb (by have := h.lb.lt; have := h.b0; omega), h.hz, h.lb.below hb h.lb.lt, h.ab.below hb h.ab.lt, h.pb.below hb h.pb.lt, h.mb.below hb h.mb.lt⟩
theorem MK.drew (h : MK W B bl ba bp bm A c zs a) : MK W.drew B bl ba bp bm A c zs a := h.below (below_drewN (Below.refl _ _) 1)
theorem MK.far (h : MK W B bl ba bp bm A c zs a) {p : Addr} (hp : bm < p.block) (u : Value) : MK (W.setCell p u) B bl ba bp bm A c zs a := by
  have e0 := h.b0
  have e1 := h.b1
  have e2 := h.b2
  have e3 := h.b3
  exact ⟨e0, e1, e2, e3, h.hU.set (by omega) u, h.hz, h.lb.far (by omega) u, h.ab.far (by omega) u, h.pb.far (by omega) u, h.mb.far (by omega) u⟩
theorem MK.grown (h : MK W B bl ba bp bm A c zs a) {row : Option Nat} (hg : W.grownBy W' row) (hr : ∀ k, row = some k → bm < k) : MK W' B bl ba bp bm A c zs a := by
  have e0 := h.b0
  have e1 := h.b1
  have e2 := h.b2
  have e3 := h.b3
  have hlt := h.mb.lt
  refine ⟨e0, e1, e2, e3, ?_, h.hz, h.lb.grown hg (fun e => by have := hr _ e.symm; omega), h.ab.grown hg (fun e => by have := hr _ e.symm; omega), h.pb.grown hg (fun e => by have := hr _ e.symm; omega), h.mb.grown hg (fun e => by have := hr _ e.symm; omega)⟩
  intro k hk
  obtain ⟨b, off, rfl, hb, h1, h2⟩ := h.hU k hk
  exact ⟨b, off, rfl, hb, (World.cell?_of_block (hg.block b (by omega) (fun e => by have := hr _ e.symm; omega))).trans h1, h2⟩
theorem MK.pick (h : MK W B bl ba bp bm A c zs a) : MK (W.setCell ⟨ba, 0, none⟩ (.int .i64 ((a : Int) + 1))) B bl ba bp bm A c zs (a + 1) := by
  have e0 := h.b0
  have e1 := h.b1
  have e2 := h.b2
  have e3 := h.b3
  refine ⟨e0, e1, e2, e3, h.hU.set (by simp only; omega) _, h.hz, h.lb.far (by simp only; omega) _, ?_, h.pb.far (by simp only; omega) _, h.mb.far (by simp only; omega) _⟩
  have := h.ab.put 0 (.int .i64 ((a : Int) + 1))
  simpa using this
theorem MK.call (h : MK W B bl ba bp bm A c zs a) (ha : a ≤ 100000) (n : Nat) (hn : 0 < n) (hn1 : n ≤ 65536) :
    Calls Tryd.prog 34 #[.int .i64 (n : Int), .pointer (some ⟨ba, 0, none⟩), .pointer (some ⟨bl, 0, none⟩)] W fun e w' => e = .returned (.int .i64 (Fm.pickS (zs.map Int.toNat) n a : Nat)) ∧ MK w' B bl ba bp bm A c zs (a + 1) ∧ RKeep ba W w' ∧ w'.heap.size = W.heap.size := by
  have e0 := h.b0
  have e1 := h.b1
  refine (mpick_any ba bl A c zs a n W B (by omega) h.hU h.hz ha hn hn1 (by omega) (by simpa using h.ab.cell 0) (h.ab.frozen 0) (by simpa using h.lb.cell 0)).mono ?_
  rintro e w' ⟨r1, r2⟩
  subst r2
  exact ⟨r1, h.pick, (RKeep.refl ba W).set (p := ⟨ba, 0, none⟩) rfl _, by simp⟩
end
theorem kidsM_snoc (g : Nat → Fm.F × Nat) : ∀ (n a : Nat), (Fm.kidsM g (n + 1) a).1 = (Fm.kidsM g n a).1 ++ [(g (Fm.kidsM g n a).2).1] ∧ (Fm.kidsM g (n + 1) a).2 = (g (Fm.kidsM g n a).2).2
  | 0, a => ⟨rfl, rfl⟩
  | n + 1, a => by
    obtain ⟨h1, h2⟩ := kidsM_snoc g n (g a).2
    constructor
    · rw [Fm.kidsM, h1]
      rfl
    · rw [Fm.kidsM, h2]
      rfl
theorem kidsM_pos (g : Nat → Fm.F × Nat) (c : Nat) (h : ∀ a, (g a).2 ≤ a + c) : ∀ n a, (Fm.kidsM g n a).2 ≤ a + n * c
  | 0, a => by simp [Fm.kidsM]
  | n + 1, a => by
    have h1 := kidsM_pos g c h n (g a).2
    have h2 := h a
    rw [Fm.kidsM]
    simp only
    rw [Nat.succ_mul]
    omega
theorem kidN_le (k : Int) : Fm.kidN k ≤ 2 := by
  unfold Fm.kidN Fm.kidsN
  split
  · exact Nat.zero_le _
  · split
    · exact (by decide : 1 ≤ 2)
    · split
      · exact Nat.le_refl _
      · exact Nat.zero_le _
theorem kidN_3 {k : Int} (h : 1 ≤ k ∧ k ≤ 3) : Fm.kidN k = 0 := by
  unfold Fm.kidN Fm.kidsN
  rw [if_pos h]
  rfl
theorem name_pos (zs : List Nat) (k : Int) (a : Nat) : (Fm.nameM zs k a).2 ≤ a + 1 := by
  unfold Fm.nameM
  split <;> simp
theorem name_other (zs : List Nat) {k : Int} (a : Nat) (h : k ≠ 3) : Fm.nameM zs k a = ([], a) := by
  unfold Fm.nameM
  rw [if_neg h]
theorem kind_pos (zs : List Nat) (d a : Nat) : (Fm.kindM zs d a).2 ≤ a + 2 := by
  unfold Fm.kindM
  split <;> simp
theorem kind_few (zs : List Nat) (d a : Nat) (h : (Fm.kindM zs d a).2 = a + 2) : (Fm.kindM zs d a).1 = 2 ∨ (Fm.kindM zs d a).1 = 3 := by
  unfold Fm.kindM at h ⊢
  have h7 := Fm.pick_lt zs 7 (a + 1) (by decide)
  split
  · simp only
    omega
  · rename_i hn
    rw [if_neg hn] at h
    simp at h
/-- How far the place goes. -/
theorem make_pos (zs : List Nat) : ∀ d a, (Fm.makeS zs d a).2 + 3 ≤ a + 3 * 2 ^ (d + 1)
  | 0, a => by
    rw [Fm.makeS]
    have h1 := kind_pos zs 0 a
    have h2 := name_pos zs (Fm.kindM zs 0 a).1 (Fm.kindM zs 0 a).2
    simp only
    omega
  | d + 1, a => by
    rw [Fm.makeS]
    have h1 := kind_pos zs (d + 1) a
    have h2 := name_pos zs (Fm.kindM zs (d + 1) a).1 (Fm.kindM zs (d + 1) a).2
    have hp : 2 ^ (d + 1 + 1) = 2 * 2 ^ (d + 1) := by rw [Nat.pow_succ]; omega
    have hp1 : 1 ≤ 2 ^ (d + 1) := Nat.one_le_two_pow
    have hg : ∀ a, (Fm.makeS zs d a).2 ≤ a + (3 * 2 ^ (d + 1) - 3) := fun a => by have := make_pos zs d a; omega
    have h3 := kidsM_pos (Fm.makeS zs d) _ hg (Fm.kidN (Fm.kindM zs (d + 1) a).1) (Fm.nameM zs (Fm.kindM zs (d + 1) a).1 (Fm.kindM zs (d + 1) a).2).2
    have h4 : Fm.kidN (Fm.kindM zs (d + 1) a).1 * (3 * 2 ^ (d + 1) - 3) ≤ 2 * (3 * 2 ^ (d + 1) - 3) := Nat.mul_le_mul_right _ (kidN_le _)
    simp only
    omega
end Go.Proofs.YtlddnejjpekgeaaDoor
