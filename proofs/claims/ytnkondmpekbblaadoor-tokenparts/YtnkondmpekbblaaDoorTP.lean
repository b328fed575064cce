/- Tokens: the texts of few pieces. -/
import Derived.Test.YtnkondmpekbblaaDoorTA
namespace Go.Proofs.YtnkondmpekbblaaDoor
open Go.RowKit
attribute [local go_sem] bsv_size

def piecesL : List Tk.Bs := [[65, 71], [69, 70], [69], [65], [85], [82], [69, 88], [97], [113], [108, 48], [33], [38], [124], [45, 62], [60, 45, 62], [40], [41], [91], [93], [32], [34, 120, 46, 121, 34], [34], [45], [60], [116, 114, 117, 101], [102, 97, 108, 115, 101], [65, 70], [10], [63], [69, 71]]
def pieceCells : Array Value := (piecesL.map (fun x => Value.string (bsv x))).toArray
theorem pieces_len : piecesL.length = 30 := rfl
theorem pieces_short : ∀ x ∈ piecesL, x.length ≤ 5 := by decide
theorem pieceCells_get (i : Nat) (h : i < 30) : pieceCells[i]? = some (.string (bsv (piecesL.getD i []))) := by
  have h' : i < piecesL.length := h
  unfold pieceCells
  rw [List.getElem?_toArray, List.getElem?_map, List.getElem?_eq_getElem h', List.getD_eq_getElem?_getD, List.getElem?_eq_getElem h']
  rfl
theorem piece_short (i : Nat) : (piecesL.getD i []).length ≤ 5 := by
  by_cases h : i < piecesL.length
  · rw [List.getD_eq_getElem?_getD, List.getElem?_eq_getElem h]
    exact pieces_short _ (List.getElem_mem h)
  · rw [List.getD_eq_getElem?_getD, List.getElem?_eq_none (by omega)]
    simp
/-- The text of some numbers. -/
def pcs (zs : List Int) : Tk.Bs := zs.flatMap (fun z => piecesL.getD (z.toNat % 30) [])
theorem pcs_len (zs : List Int) : (pcs zs).length ≤ 5 * zs.length := by
  induction zs with
  | nil => exact Nat.le_refl _
  | cons z r ih =>
    have := piece_short (z.toNat % 30)
    simp only [pcs, List.flatMap_cons, List.length_append, List.length_cons] at ih ⊢
    omega
theorem pcs_snoc (zs : List Int) (z : Int) : pcs (zs ++ [z]) = pcs zs ++ piecesL.getD (z.toNat % 30) [] := by simp [pcs]
def piecesS (zs : List Int) : Tk.Bs := pcs (zs.take 20)
theorem piecesS_len (zs : List Int) : (piecesS zs).length ≤ 100 := by
  have := pcs_len (zs.take 20)
  rw [List.length_take] at this
  unfold piecesS
  omega
theorem ixS30 (sb r : Nat) (hr : r < 30) (w : World) : (Instr.indexAt 36 (.slice (some ⟨sb, 0, none⟩) 30 30) (.int .i64 (r : Int))).run Tryd.prog w = .ok (.pointer (some ⟨sb, r, none⟩)) w := by
  have h1 : (r : Int) < 30 := by omega
  go_simp
theorem add_bsv (u x : Tk.Bs) (h : u.length + x.length ≤ 100000) (w : World) : (Op.stringOp .add (bsv u) (bsv x)).run Tryd.prog w = .ok (.string (bsv (u ++ x))) w := by
  rw [run_string_add_sum w _ _ (by rw [bsv_size, bsv_size]; omega)]
  refine congrArg (fun s => Result.ok (Value.string s) w) ?_
  apply ByteArray.ext
  simp [bsv]
set_option maxRecDepth 100000 in
set_option maxHeartbeats 4000000 in
theorem pieces_any (A : Option Addr) (c : Nat) (zs : List Int) (w : World) (hml : zs.length ≤ maxLen) (hU : Ub w w.heap.size A zs) :
    Calls Tryd.prog 9 #[.slice A zs.length c] w fun e w' => e = .returned (.string (bsv (piecesS zs))) ∧ Below w.heap.size w w' := by
  have hml2 : zs.length ≤ 9223372036854775807 := by
    have : maxLen ≤ 9223372036854775807 := by decide
    omega
  clear hml
  go_enter Tryd.func9, Tryd.ntmps9
  go_wp2
  have lo : Below w.heap.size w (w.alloc (Obj.cells #[.string ⟨#[65, 71]⟩, .string ⟨#[69, 70]⟩, .string ⟨#[69]⟩, .string ⟨#[65]⟩, .string ⟨#[85]⟩, .string ⟨#[82]⟩, .string ⟨#[69, 88]⟩, .string ⟨#[97]⟩, .string ⟨#[113]⟩, .string ⟨#[108, 48]⟩, .string ⟨#[33]⟩, .string ⟨#[38]⟩, .string ⟨#[124]⟩, .string ⟨#[45, 62]⟩, .string ⟨#[60, 45, 62]⟩, .string ⟨#[40]⟩, .string ⟨#[41]⟩, .string ⟨#[91]⟩, .string ⟨#[93]⟩, .string ⟨#[32]⟩, .string ⟨#[34, 120, 46, 121, 34]⟩, .string ⟨#[34]⟩, .string ⟨#[45]⟩, .string ⟨#[60]⟩, .string ⟨#[116, 114, 117, 101]⟩, .string ⟨#[102, 97, 108, 115, 101]⟩, .string ⟨#[65, 70]⟩, .string ⟨#[10]⟩, .string ⟨#[63]⟩, .string ⟨#[69, 71]⟩] 9)) := lowAlloc w _
  have hB : Blk (w.alloc (Obj.cells #[.string ⟨#[65, 71]⟩, .string ⟨#[69, 70]⟩, .string ⟨#[69]⟩, .string ⟨#[65]⟩, .string ⟨#[85]⟩, .string ⟨#[82]⟩, .string ⟨#[69, 88]⟩, .string ⟨#[97]⟩, .string ⟨#[113]⟩, .string ⟨#[108, 48]⟩, .string ⟨#[33]⟩, .string ⟨#[38]⟩, .string ⟨#[124]⟩, .string ⟨#[45, 62]⟩, .string ⟨#[60, 45, 62]⟩, .string ⟨#[40]⟩, .string ⟨#[41]⟩, .string ⟨#[91]⟩, .string ⟨#[93]⟩, .string ⟨#[32]⟩, .string ⟨#[34, 120, 46, 121, 34]⟩, .string ⟨#[34]⟩, .string ⟨#[45]⟩, .string ⟨#[60]⟩, .string ⟨#[116, 114, 117, 101]⟩, .string ⟨#[102, 97, 108, 115, 101]⟩, .string ⟨#[65, 70]⟩, .string ⟨#[10]⟩, .string ⟨#[63]⟩, .string ⟨#[69, 71]⟩] 9)) w.heap.size 9 pieceCells := Blk.new w 9 pieceCells
  have hU2 := hU.below lo (Nat.le_refl _)
  generalize (w.alloc (Obj.cells #[.string ⟨#[65, 71]⟩, .string ⟨#[69, 70]⟩, .string ⟨#[69]⟩, .string ⟨#[65]⟩, .string ⟨#[85]⟩, .string ⟨#[82]⟩, .string ⟨#[69, 88]⟩, .string ⟨#[97]⟩, .string ⟨#[113]⟩, .string ⟨#[108, 48]⟩, .string ⟨#[33]⟩, .string ⟨#[38]⟩, .string ⟨#[124]⟩, .string ⟨#[45, 62]⟩, .string ⟨#[60, 45, 62]⟩, .string ⟨#[40]⟩, .string ⟨#[41]⟩, .string ⟨#[91]⟩, .string ⟨#[93]⟩, .string ⟨#[32]⟩, .string ⟨#[34, 120, 46, 121, 34]⟩, .string ⟨#[34]⟩, .string ⟨#[45]⟩, .string ⟨#[60]⟩, .string ⟨#[116, 114, 117, 101]⟩, .string ⟨#[102, 97, 108, 115, 101]⟩, .string ⟨#[65, 70]⟩, .string ⟨#[10]⟩, .string ⟨#[63]⟩, .string ⟨#[69, 71]⟩] 9)) = V at *
  clear hU
  go_loopw [4, 5] (fun t i W => ∃ k : Nat, k ≤ zs.length ∧ k ≤ 20 ∧ i = .int .i64 (k : Int) ∧ t = .string (bsv (pcs (zs.take k))) ∧ V = W) (fun _ i _ => 20 - (intOf i).toNat)
  case atStart => exact ⟨0, Nat.zero_le _, Nat.zero_le _, rfl, rfl, rfl⟩
  case round =>
    obtain ⟨k, hk, hk20, rfl, rfl, rfl⟩ := hrel
    by_cases hlt : k < zs.length
    · have dl : decide ((k : Int) < (zs.length : Int)) = true := decide_eq_true (by omega)
      by_cases h20 : k < 20
      · have d20 : decide ((k : Int) < 20) = true := decide_eq_true (by omega)
        obtain ⟨b, off, rfl, _, g1, g2, g3⟩ := hU2 k hlt
        have hix := ixU8 b off zs.length c k hml2 hlt
        have HT : Hid (pcs (zs.take (k + 1)) = pcs (zs.take k) ++ piecesL.getD ((zs[k]).toNat % 30) []) := by
          unfold Hid
          rw [← pcs_snoc, List.take_add_one, List.getElem?_eq_getElem hlt]
          rfl
        have hsl := pcs_len (zs.take k)
        rw [List.length_take] at hsl
        generalize zs[k] = z at *
        obtain ⟨m, rfl⟩ : ∃ m : Nat, z = (m : Int) := ⟨z.toNat, by omega⟩
        rw [Int.toNat_natCast] at HT
        have hm : m % 30 < 30 := Nat.mod_lt _ (by omega)
        have ck := (hB.cell (m % 30)).trans (pieceCells_get _ hm)
        have hx0 := ixS30 w.heap.size (m % 30) hm
        have hx1 : ∀ W, (Instr.indexAt 36 (.slice (some ⟨w.heap.size, 0, none⟩) 30 30) (.int .i64 ((m : Int).tmod 30))).run Tryd.prog W = .ok (.pointer (some ⟨w.heap.size, m % 30, none⟩)) W := hx0
        have hps := piece_short (m % 30)
        generalize piecesL.getD (m % 30) [] = x at *
        have hadd := add_bsv (pcs (zs.take k)) x (by omega)
        clear hx0 hx1
        generalize pcs (zs.take k) = u at *
        go_wp2
        go_roundw
        case rel => exact ⟨k + 1, by omega, by omega, by go_num, by rw [HT.out], trivial⟩
        case measure => simp [intOf]; omega
      · obtain rfl : k = 20 := by omega
        have HP : Hid (piecesS zs = pcs (zs.take 20)) := rfl
        generalize pcs (zs.take 20) = u at *
        go_wp2
        go_ret
        exact ⟨by rw [HP.out]; rfl, lo⟩
    · have dl : decide ((k : Int) < (zs.length : Int)) = false := decide_eq_false (by omega)
      have HP : Hid (piecesS zs = pcs (zs.take k)) := by
        unfold Hid piecesS
        rw [List.take_of_length_le (show zs.length ≤ k by omega), List.take_of_length_le (show zs.length ≤ 20 by omega)]
      generalize pcs (zs.take k) = u at *
      go_wp2
      go_ret
      exact ⟨by rw [HP.out]; rfl, lo⟩
set_option maxHeartbeats 4000000 in
theorem tokenSmall_walk (A : Option Addr) (c : Nat) (zs : List Int) (w : World) (hml : zs.length ≤ maxLen) (hU : Ub w w.heap.size A zs) (hT : Tabs w) : Calls Tryd.prog 4 #[.slice A zs.length c] w fun e w' => e = .returned (.bool true) ∧ Below w.heap.size w w' := by
  have HA := Lib.hid (awake_any w hT.sig hT.lt)
  have HP := Lib.hid (fun w hU => pieces_any A c zs w hml hU)
  have hpl := piecesS_len zs
  have HS := Lib.hid (fun w hT => samelaw_any (piecesS zs) w (by omega) hT)
  generalize piecesS zs = s at *
  clear hpl
  go_enter Tryd.func4, Tryd.ntmps4
  go_wp2_with fail
  refine HA.out.mono ?_
  rintro e w1 ⟨rfl, hlo⟩
  have hT1 := hT.below hlo
  have hU1 := (hU.below hlo (Nat.le_refl _)).more hlo.size
  clear HA
  go_wp2_with fail
  refine (HP.out w1 hU1).mono ?_
  rintro e w2 ⟨rfl, hlo2⟩
  have hT2 := hT1.below hlo2
  clear HP hU1
  go_wp2_with fail
  refine (HS.out w2 hT2).mono ?_
  rintro e w3 ⟨rfl, hlo3⟩
  go_wp2
  go_ret
  exact ⟨rfl, (hlo.trans (hlo2.mono hlo.size)).trans (hlo3.mono (Nat.le_trans hlo.size hlo2.size))⟩
end Go.Proofs.YtnkondmpekbblaaDoor
