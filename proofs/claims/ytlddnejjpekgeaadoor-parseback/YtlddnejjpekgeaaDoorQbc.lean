/- Parsing: errors are not zero. -/
import Derived.Test.YtlddnejjpekgeaaDoorQaj
import Derived.Test.YtlddnejjpekgeaaDoorQbb
import Derived.Test.YtlddnejjpekgeaaDoorQay
import Derived.Test.YtlddnejjpekgeaaDoorQax
import Derived.HandedShaped
import Derived.Shelf.Vars
import Derived.Lay
set_option linter.unusedSimpArgs false
set_option linter.unusedVariables false
namespace Go.Proofs.YtlddnejjpekgeaaDoor
namespace Fm
open Tk

/-- What refuses tells an error. -/
def NZ (p : List Tk.Tok → Res) : Prop := ∀ ts e a, p ts = .error (e, a) → e ≠ 0
theorem must_nz {x : Bs} {ts : List Tk.Tok} {e a : Nat} (h : mustT x ts = .error (e, a)) : e ≠ 0 := by
  unfold mustT at h
  split at h
  · cases h
  · injection h with h
    injection h with h1 h2
    omega
theorem loop_nz {x : Bs} {k : Int} {part : List Tk.Tok → Res} (hp : NZ part) : ∀ (n : Nat) (f : F) (ts : List Tk.Tok) (e a : Nat), loopG x k part n f ts = .error (e, a) → e ≠ 0
  | 0, f, ts, e, a, h => by rw [loopG] at h; cases h
  | n + 1, f, ts, e, a, h => by
    rw [loopG] at h
    split at h
    · cases hq : part ts.tail with
      | error q =>
        rw [hq] at h
        injection h with h
        subst h
        exact hp _ _ _ hq
      | ok q =>
        obtain ⟨g1, r1⟩ := q
        rw [hq] at h
        exact loop_nz hp n _ _ _ _ h
    · cases h
theorem chain_nz {x : Bs} {k : Int} {part : List Tk.Tok → Res} (hp : NZ part) : NZ (chainG x k part) := by
  intro ts e a h
  unfold chainG at h
  cases hq : part ts with
  | error q =>
    rw [hq] at h
    injection h with h
    subst h
    exact hp _ _ _ hq
  | ok q =>
    obtain ⟨g1, r1⟩ := q
    rw [hq] at h
    exact loop_nz hp _ _ _ _ _ h
theorem or_nz {pp : Nat → List Tk.Tok → Res} (hp : ∀ d, NZ (pp d)) (d : Nat) : NZ (orG pp d) := chain_nz (chain_nz (hp d))
theorem imp_nz {pp : Nat → List Tk.Tok → Res} (hp : ∀ d, NZ (pp d)) : ∀ (n d : Nat), NZ (impG pp n d)
  | 0, d => by
    intro ts e a h
    rw [impG] at h
    injection h with h
    injection h with h1 h2
    omega
  | n + 1, d => by
    intro ts e a h
    rw [impG] at h
    cases hq : orG pp d ts with
    | error q =>
      rw [hq] at h
      injection h with h
      subst h
      exact or_nz hp d _ _ _ hq
    | ok q =>
      obtain ⟨g1, r1⟩ := q
      rw [hq] at h
      simp only at h
      split at h
      · cases hq2 : impG pp n (d + 1) r1.tail with
        | error q =>
          rw [hq2] at h
          injection h with h
          subst h
          exact imp_nz hp n (d + 1) _ _ _ hq2
        | ok q =>
          rw [hq2] at h
          cases h
      · cases h
theorem whole_nz {pp : Nat → List Tk.Tok → Res} (hp : ∀ d, NZ (pp d)) (d : Nat) : NZ (wholeG pp d) := chain_nz (fun ts e a h => imp_nz hp _ d _ _ _ h)
theorem sec_nz {pw : Nat → List Tk.Tok → Res} (hp : ∀ d, NZ (pw d)) {k : Int} {f : F} {d : Nat} {ts : List Tk.Tok} {e a : Nat} (h : secS pw k f d ts = .error (e, a)) : e ≠ 0 := by
  unfold secS at h
  cases hq : pw (d + 1) ts with
  | error q =>
    rw [hq] at h
    injection h with h
    subst h
    exact hp _ _ _ _ hq
  | ok q =>
    obtain ⟨g1, r1⟩ := q
    rw [hq] at h
    simp only at h
    cases hm : mustT [93] r1 with
    | error q =>
      rw [hm] at h
      injection h with h
      subst h
      exact must_nz hm
    | ok r2 =>
      rw [hm] at h
      cases h
theorem path_nz {pw : Nat → List Tk.Tok → Res} (hp : ∀ d, NZ (pw d)) {u v : Int} {d : Nat} {ts : List Tk.Tok} {e a : Nat} (h : pathS pw u v d ts = .error (e, a)) : e ≠ 0 := by
  unfold pathS at h
  cases hm : mustT [91] ts with
  | error q =>
    rw [hm] at h
    injection h with h
    subst h
    exact must_nz hm
  | ok r1 =>
    rw [hm] at h
    simp only at h
    cases hq : pw (d + 1) r1 with
    | error q =>
      rw [hq] at h
      injection h with h
      subst h
      exact hp _ _ _ _ hq
    | ok q =>
      obtain ⟨g1, r2⟩ := q
      rw [hq] at h
      simp only at h
      split at h
      · exact sec_nz hp h
      · cases hm2 : mustT [82] r2 with
        | error q =>
          rw [hm2] at h
          injection h with h
          subst h
          exact must_nz hm2
        | ok r3 =>
          rw [hm2] at h
          exact sec_nz hp h
theorem una_nz {pp : Nat → List Tk.Tok → Res} (hp : ∀ d, NZ (pp d)) {k : Int} {d : Nat} {ts : List Tk.Tok} {e a : Nat} (h : unaS pp k d ts = .error (e, a)) : e ≠ 0 := by
  unfold unaS at h
  cases hq : pp (d + 1) ts with
  | error q =>
    rw [hq] at h
    injection h with h
    subst h
    exact hp _ _ _ _ hq
  | ok q =>
    rw [hq] at h
    cases h
theorem enc_nz {pw : Nat → List Tk.Tok → Res} (hp : ∀ d, NZ (pw d)) {d : Nat} {ts : List Tk.Tok} {e a : Nat} (h : encS pw d ts = .error (e, a)) : e ≠ 0 := by
  unfold encS at h
  cases hq : pw (d + 1) ts with
  | error q =>
    rw [hq] at h
    injection h with h
    subst h
    exact hp _ _ _ _ hq
  | ok q =>
    obtain ⟨g1, r1⟩ := q
    rw [hq] at h
    simp only at h
    cases hm : mustT [41] r1 with
    | error q =>
      rw [hm] at h
      injection h with h
      subst h
      exact must_nz hm
    | ok r2 =>
      rw [hm] at h
      cases h
theorem atom_nz {ts : List Tk.Tok} {e a : Nat} (h : atomT ts = .error (e, a)) : e ≠ 0 := by
  unfold atomT at h
  split at h
  · cases h
  · injection h with h
    injection h with h1 h2
    omega
theorem prim_nz {pp pw : Nat → List Tk.Tok → Res} (hp : ∀ d, NZ (pp d)) (hw : ∀ d, NZ (pw d)) {d : Nat} {w : Bs} {ts : List Tk.Tok} {e a : Nat} (h : primT pp pw d w ts = .error (e, a)) : e ≠ 0 := by
  unfold primT at h
  split at h
  · cases h
  · split at h
    · cases h
    · split at h
      · exact una_nz hp h
      · split at h
        · exact path_nz hw h
        · split at h
          · exact path_nz hw h
          · split at h
            · exact enc_nz hw h
            · exact atom_nz h
theorem pP_nz : ∀ (n d : Nat), NZ (pP n d)
  | 0, d => by
    intro ts e a h
    rw [pP] at h
    injection h with h
    injection h with h1 h2
    omega
  | n + 1, d => by
    intro ts e a h
    rw [pP, prim] at h
    split at h
    · injection h with h
      injection h with h1 h2
      omega
    · exact prim_nz (pP_nz n) (whole_nz (pP_nz n)) h
theorem parseT_nz {ts : List Tk.Tok} {e a : Nat} (h : parseT ts = .error (e, a)) : e ≠ 0 := by
  unfold parseT at h
  cases hq : wholeG (pP (ts.length + 1)) 0 ts with
  | error q =>
    rw [hq] at h
    injection h with h
    subst h
    exact whole_nz (pP_nz _) 0 _ _ _ hq
  | ok q =>
    obtain ⟨f, r⟩ := q
    rw [hq] at h
    simp only at h
    split at h
    · split at h
      · cases h
      · injection h with h
        injection h with h1 h2
        omega
    · injection h with h
      injection h with h1 h2
      omega
end Fm
end Go.Proofs.YtlddnejjpekgeaaDoor
/- Parsing: ParseBlanks. -/
namespace Go.Proofs.YtlddnejjpekgeaaDoor
open Go.RowKit

theorem parseS_nz {u : Tk.Bs} {e a : Nat} (h : Fm.parseS u = .error (e, a)) : e ≠ 0 := by
  rcases lex_ways u with h1 | ⟨b, h1⟩ | ⟨ts, h1, _⟩
  · unfold Fm.parseS at h
    rw [h1] at h
    injection h with h
    injection h with h2 h3
    omega
  · unfold Fm.parseS at h
    rw [h1] at h
    injection h with h
    injection h with h2 h3
    omega
  · unfold Fm.parseS at h
    rw [h1] at h
    exact Fm.parseT_nz h
/-- The formula that is nothing. -/
def noF : Fm.F := .mk 0 [] 0 []
theorem noF_fv (w : World) : FV w (Lo w.heap.size) noF (.agg #[.int .i64 0, .string ⟨#[]⟩, .int .i64 0, .slice none 0 0]) := FV.mk (A := none) (c := 0) (FL.nil _ _ _ _)
set_option maxRecDepth 100000 in
set_option maxHeartbeats 8000000 in
theorem parseBlanks_walk (s0 : ByteArray) (A0 : Option Addr) (c0 : Nat) (zs : List Int) (small : Bool) (w : World) (hs : s0.size ≤ maxLen) (hml : zs.length ≤ maxLen) (hU : Ub w w.heap.size A0 zs) (hT : Tabs w) :
    Calls Tryd.prog 12 #[.string s0, .slice A0 zs.length c0, .bool small] w fun e w' => e = .returned (.bool true) ∧ Below w.heap.size w w' := by
  have e0 : s0 = bsv s0.data.toList := by
    cases s0
    simp [bsv]
  rw [e0] at hs ⊢
  generalize s0.data.toList = s at *
  clear e0
  rw [bsv_size] at hs
  have hs2 : s.length ≤ 9223372036854775807 := by
    have : maxLen ≤ 9223372036854775807 := by decide
    omega
  clear hs
  have HA := Lib.hid (awake9_any w hT)
  have HP := Lib.hid (fun w hU => pieces_any A0 c0 zs w hml hU)
  have HPL := Lib.hid (piecesS_len zs)
  generalize piecesS zs = ps at *
  go_enter Tryd.func12, Tryd.ntmps12
  go_wp2_with fail
  refine HA.out.mono ?_
  rintro e w1 ⟨rfl, hlo⟩
  have hT1 := hT.below hlo
  have hU1 := (hU.below hlo (Nat.le_refl _)).more hlo.size
  clear HA hU hT
  go_upto_region 4 with fail
  go_cut [32] from 27 (fun c wx => c = .bool (small || decide (600 < s.length)) ∧ w1 = wx)
  case first =>
    cases small with
    | true =>
      go_wp2
      go_meet
      case rel => exact ⟨rfl, rfl⟩
    | false =>
      go_wp2
      go_meet
      case rel => exact ⟨by have hbs := bsv_size s; simp; omega, rfl⟩
  case rest =>
    obtain ⟨rfl, rfl⟩ := hcut
    generalize hb : (small || decide (600 < s.length)) = b at *
    go_upto_if 32 with fail
    go_cut [0] from 33 (fun v wx => ∃ u : Tk.Bs, v = .string (bsv u) ∧ u.length ≤ 600 ∧ Below w.heap.size w wx ∧ Tabs wx)
    case first =>
      cases b with
      | true =>
        go_wp2_with fail
        refine (HP.out w1 hU1).mono ?_
        rintro e w2 ⟨rfl, hlo2⟩
        go_wp2
        go_meet
        case rel => exact ⟨ps, rfl, by have := HPL.out; omega, hlo.trans (hlo2.mono hlo.size), hT1.below hlo2⟩
      | false =>
        have h6 : s.length ≤ 600 := by
          simp at hb
          exact hb.2
        go_wp2
        go_meet
        case rel => exact ⟨s, rfl, h6, hlo, hT1⟩
    case rest =>
      obtain ⟨u, rfl, hu6, hlo2, hT2⟩ := hcut
      generalize wc = w2 at *
      clear hb HP HPL hU1 hT1 hlo
      have hul : u.length ≤ 9223372036854775807 := by omega
      rcases Tk.lexA_cases u (by omega) with ⟨ts, hA, hW0, hTX⟩ | ⟨a, hA, _, ha⟩
      · obtain ⟨hjl, hpb⟩ := Fm.parse_blanks (by omega) hA
        have HJL : Hid ((Tk.joinS (ts.map wd)).length ≤ 20000) := hjl
        clear hW0 hTX hjl
        rcases hpb with ⟨f, hp1, hp2⟩ | ⟨e1, a1, b1, hp1, hp2⟩
        · have hp2 : Fm.parseS (Tk.joinS (ts.map wd)) = .ok f := hp2
          obtain ⟨hv, htl, hpt⟩ := Fm.parse_again (by omega) hp1
          have H1 := Lib.hid (parse_good hp1 hul w2 hT2)
          have HP2 := Lib.hid hp2
          have HV := Lib.hid hv
          have HPT := Lib.hid hpt
          have HTL := Lib.hid htl
          clear hp1 hp2 hv hpt htl
          go_wp2_with fail
          refine H1.out.mono ?_
          rintro e w3 ⟨k1, s1, l1, A1, n1, c1, rfl, hF0, hb3⟩
          have lo3 := lowAlloc w3 (Obj.cells #[.int .i64 k1, .string s1, .int .i64 l1, .slice A1 n1 c1] 24)
          have hx3 := Blk.new w3 24 #[.int .i64 k1, .string s1, .int .i64 l1, .slice A1 n1 c1]
          have hF3 := hF0.on lo3
          have hT3 := (hT2.below hb3).below lo3
          have hlo3 := hlo2.trans (hb3.mono hlo2.size)
          have hlo4 := hlo3.trans (lo3.mono hlo3.size)
          clear H1 hT2 hb3 hlo2 hlo3 lo3 hF0
          go_upto_region 7 with fail
          generalize w3.alloc (Obj.cells #[.int .i64 k1, .string s1, .int .i64 l1, .slice A1 n1 c1] 24) = W3 at *
          have HL := Lib.hid (lex_any u W3 hul hT3.sig hT3.lt)
          unfold LexP at HL
          rw [hA] at HL
          have hLN := Tk.lexA_len u
          rw [hA] at hLN
          have hLN2 : ts.length ≤ 20001 := hLN
          have HL2 : Hid (Calls Tryd.prog 22 #[.string (bsv u)] W3 fun e w' => ∃ v, e = .returned (.tuple #[v, .int .i64 0, .int .i64 0]) ∧ w'.ownsRow W3.heap.size 53 3 v ts.length (flatT ts) ∧ Below W3.heap.size W3 w') := HL.out
          clear HL hA hLN
          go_wp2_with fail
          refine HL2.out.mono ?_
          rintro e w4 ⟨v, rfl, hrow, hb4⟩
          obtain ⟨A, c, rfl, hR⟩ := row_tr hrow
          have hT4 := hT3.below hb4
          have hx4 := hx3.below hb4 hx3.lt
          have hlo5 := hlo4.trans (hb4.mono hlo4.size)
          have hF4 := hF3.on hb4
          clear HL2 hrow hb4 hlo4 hT3 hx3 hF3
          go_wp2
          go_loopw [14, 15] (fun t i W => ∃ k : Nat, k ≤ ts.length ∧ i = .int .i64 (k : Int) ∧ t = .string (bsv (Tk.joinS ((ts.map wd).take k))) ∧ w4 = W) (fun _ i _ => ts.length - (intOf i).toNat)
          case atStart => exact ⟨0, Nat.zero_le _, rfl, rfl, rfl⟩
          case round =>
            obtain ⟨k, hk, rfl, rfl, rfl⟩ := hrel
            by_cases hlt : k < ts.length
            · obtain ⟨b, off, hAe, _, g0, g1, g2⟩ := hR k hlt
              subst hAe
              have hix := ixT b off ts.length c k (by omega) hlt
              have HJ := Lib.hid (join_step ts k hlt)
              have hj1 : (Tk.joinS ((ts.map wd).take k)).length + 1 + (ts[k]).t.length ≤ 20000 := by
                have h1 := congrArg List.length HJ.out
                have h2 := join_take_len (ts.map wd) (k + 1)
                have h3 := HJL.out
                simp at h1
                omega
              generalize ts[k] = x at *
              obtain ⟨xk, xt, xa⟩ := x
              simp only at g0 g1 g2 HJ hj1
              generalize Tk.joinS ((ts.map wd).take k) = y at *
              have hadd1 : ∀ w, (Op.stringOp .add (bsv y) ⟨#[32]⟩).run Tryd.prog w = .ok (.string (bsv (y ++ [32]))) w := addw y [32] (by simp; omega)
              have hadd2 := addw (y ++ [32]) xt (by simp; omega)
              go_wp2
              go_roundw
              case rel => exact ⟨k + 1, by omega, by go_num, by rw [HJ.out]; simp, trivial⟩
              case measure => simp [intOf]; omega
            · obtain rfl : k = ts.length := by omega
              have hte : (ts.map wd).take ts.length = ts.map wd := List.take_of_length_le (by simp)
              rw [hte]
              clear hte hlt hk hR
              have hyl := HJL.out
              generalize Tk.joinS (ts.map wd) = y at *
              have H2 := Lib.hid (parse_good HP2.out (by omega) w4 hT4)
              clear HP2
              go_wp2_with fail
              refine H2.out.mono ?_
              rintro e w5 ⟨k2, s2, l2, A2, n2, c2, rfl, hG0, hb5⟩
              have lo5 := lowAlloc w5 (Obj.cells #[.int .i64 k2, .string s2, .int .i64 l2, .slice A2 n2 c2] 24)
              have hy5 := Blk.new w5 24 #[.int .i64 k2, .string s2, .int .i64 l2, .slice A2 n2 c2]
              have hx5 := (hx4.below hb5 hx4.lt).below lo5 (hx4.below hb5 hx4.lt).lt
              have hF5 := (hF4.on hb5).on lo5
              have hG5 := hG0.on lo5
              have hT5 := (hT4.below hb5).below lo5
              have hlo6 := hlo5.trans (hb5.mono hlo5.size)
              have hlo7 := hlo6.trans (lo5.mono hlo6.size)
              clear H2 hT4 hb5 hlo5 hlo6 lo5 hx4 hF4 hG0
              go_upto_region 16 with fail
              generalize w5.alloc (Obj.cells #[.int .i64 k2, .string s2, .int .i64 l2, .slice A2 n2 c2] 24) = W5 at *
              have x0 := hx5.cell 0
              have x1 := hx5.cell 1
              have x2 := hx5.cell 2
              have x3 := hx5.cell 3
              simp only [List.getElem?_toArray, List.getElem?_cons_zero, List.getElem?_cons_succ] at x0 x1 x2 x3
              have y0 := hy5.cell 0
              have y1 := hy5.cell 1
              have y2 := hy5.cell 2
              have y3 := hy5.cell 3
              simp only [List.getElem?_toArray, List.getElem?_cons_zero, List.getElem?_cons_succ] at y0 y1 y2 y3
              have H3 := Lib.hid (same_self f (valid_cnt HV.out) _ _ W5 hF5 hG5)
              go_wp2_with fail
              refine H3.out.mono ?_
              rintro e w6 ⟨rfl, hb6⟩
              have hx6 := hx5.below hb6 hx5.lt
              have hF6 := hF5.on hb6
              have hT6 := hT5.below hb6
              have hlo8 := hlo7.trans (hb6.mono hlo7.size)
              clear H3 hb6 hlo7 x0 x1 x2 x3 y0 y1 y2 y3 hx5 hy5 hF5 hG5 hT5
              have x0 := hx6.cell 0
              have x1 := hx6.cell 1
              have x2 := hx6.cell 2
              have x3 := hx6.cell 3
              simp only [List.getElem?_toArray, List.getElem?_cons_zero, List.getElem?_cons_succ] at x0 x1 x2 x3
              have H4 := Lib.hid (print_good HV.out _ w6 hF6 hT6)
              go_wp2_with fail
              refine H4.out.mono ?_
              rintro e w7 ⟨rfl, hb7⟩
              have hx7 := hx6.below hb7 hx6.lt
              have hF7 := hF6.on hb7
              have hT7 := hT6.below hb7
              have hlo9 := hlo8.trans (hb7.mono hlo8.size)
              have H5 := Lib.hid (parse_good HPT.out (by have := HTL.out; omega) w7 hT7)
              clear H4 hb7 hlo8 x0 x1 x2 x3 hx6 hF6 hT6
              generalize f.text = ft at *
              go_wp2_with fail
              refine H5.out.mono ?_
              rintro e w8 ⟨k3, s3, l3, A3, n3, c3, rfl, hJ0, hb8⟩
              have lo8 := lowAlloc w8 (Obj.cells #[.int .i64 k3, .string s3, .int .i64 l3, .slice A3 n3 c3] 24)
              have hz := Blk.new w8 24 #[.int .i64 k3, .string s3, .int .i64 l3, .slice A3 n3 c3]
              have hx8 := (hx7.below hb8 hx7.lt).below lo8 (hx7.below hb8 hx7.lt).lt
              have hF8 := (hF7.on hb8).on lo8
              have hJ8 := hJ0.on lo8
              have hlo10 := hlo9.trans (hb8.mono hlo9.size)
              have hlo11 := hlo10.trans (lo8.mono hlo10.size)
              clear H5 hT7 hb8 hlo9 hlo10 lo8 hx7 hF7 hJ0
              go_upto_region 22 with fail
              generalize w8.alloc (Obj.cells #[.int .i64 k3, .string s3, .int .i64 l3, .slice A3 n3 c3] 24) = W8 at *
              have x0 := hx8.cell 0
              have x1 := hx8.cell 1
              have x2 := hx8.cell 2
              have x3 := hx8.cell 3
              simp only [List.getElem?_toArray, List.getElem?_cons_zero, List.getElem?_cons_succ] at x0 x1 x2 x3
              have z0 := hz.cell 0
              have z1 := hz.cell 1
              have z2 := hz.cell 2
              have z3 := hz.cell 3
              simp only [List.getElem?_toArray, List.getElem?_cons_zero, List.getElem?_cons_succ] at z0 z1 z2 z3
              have H6 := Lib.hid (same_self f (valid_cnt HV.out) _ _ W8 hF8 hJ8)
              go_wp2_with fail
              refine H6.out.mono ?_
              rintro e w9 ⟨rfl, hb9⟩
              have hlo12 := hlo11.trans (hb9.mono hlo11.size)
              clear H6 hb9 hlo11 x0 x1 x2 x3 z0 z1 z2 z3 hx8 hz hF8 hJ8
              go_wp2
              go_ret
              exact ⟨rfl, hlo12⟩
        · have hp2 : Fm.parseS (Tk.joinS (ts.map wd)) = .error (e1, b1) := hp2
          have H1 := Lib.hid (parse_bad hp1 hul w2 hT2)
          have HP2 := Lib.hid hp2
          have hen : ((e1 : Int) != 0) = true := by
            have := parseS_nz hp1
            rw [bne_iff_ne]
            omega
          have hee : ((e1 : Int) != (e1 : Int)) = false := by simp
          clear hp1 hp2
          go_wp2_with fail
          refine H1.out.mono ?_
          rintro e w3 ⟨rfl, hb3⟩
          have lo3 := lowAlloc w3 (Obj.cells #[.int .i64 0, .string ⟨#[]⟩, .int .i64 0, .slice none 0 0] 24)
          have hx3 := Blk.new w3 24 #[.int .i64 0, .string ⟨#[]⟩, .int .i64 0, .slice none 0 0]
          have hT3 := (hT2.below hb3).below lo3
          have hlo3 := hlo2.trans (hb3.mono hlo2.size)
          have hlo4 := hlo3.trans (lo3.mono hlo3.size)
          have hF3 := noF_fv (w3.alloc (Obj.cells #[.int .i64 0, .string ⟨#[]⟩, .int .i64 0, .slice none 0 0] 24))
          clear H1 hT2 hb3 hlo2 hlo3 lo3
          go_upto_region 7 with fail
          generalize w3.alloc (Obj.cells #[.int .i64 0, .string ⟨#[]⟩, .int .i64 0, .slice none 0 0] 24) = W3 at *
          have HL := Lib.hid (lex_any u W3 hul hT3.sig hT3.lt)
          unfold LexP at HL
          rw [hA] at HL
          have hLN := Tk.lexA_len u
          rw [hA] at hLN
          have hLN2 : ts.length ≤ 20001 := hLN
          have HL2 : Hid (Calls Tryd.prog 22 #[.string (bsv u)] W3 fun e w' => ∃ v, e = .returned (.tuple #[v, .int .i64 0, .int .i64 0]) ∧ w'.ownsRow W3.heap.size 53 3 v ts.length (flatT ts) ∧ Below W3.heap.size W3 w') := HL.out
          clear HL hA hLN
          go_wp2_with fail
          refine HL2.out.mono ?_
          rintro e w4 ⟨v, rfl, hrow, hb4⟩
          obtain ⟨A, c, rfl, hR⟩ := row_tr hrow
          have hT4 := hT3.below hb4
          have hx4 := hx3.below hb4 hx3.lt
          have hlo5 := hlo4.trans (hb4.mono hlo4.size)
          have hF4 := hF3.on hb4
          clear HL2 hrow hb4 hlo4 hT3 hx3 hF3
          go_wp2
          go_loopw [14, 15] (fun t i W => ∃ k : Nat, k ≤ ts.length ∧ i = .int .i64 (k : Int) ∧ t = .string (bsv (Tk.joinS ((ts.map wd).take k))) ∧ w4 = W) (fun _ i _ => ts.length - (intOf i).toNat)
          case atStart => exact ⟨0, Nat.zero_le _, rfl, rfl, rfl⟩
          case round =>
            obtain ⟨k, hk, rfl, rfl, rfl⟩ := hrel
            by_cases hlt : k < ts.length
            · obtain ⟨b, off, hAe, _, g0, g1, g2⟩ := hR k hlt
              subst hAe
              have hix := ixT b off ts.length c k (by omega) hlt
              have HJ := Lib.hid (join_step ts k hlt)
              have hj1 : (Tk.joinS ((ts.map wd).take k)).length + 1 + (ts[k]).t.length ≤ 20000 := by
                have h1 := congrArg List.length HJ.out
                have h2 := join_take_len (ts.map wd) (k + 1)
                have h3 := HJL.out
                simp at h1
                omega
              generalize ts[k] = x at *
              obtain ⟨xk, xt, xa⟩ := x
              simp only at g0 g1 g2 HJ hj1
              generalize Tk.joinS ((ts.map wd).take k) = y at *
              have hadd1 : ∀ w, (Op.stringOp .add (bsv y) ⟨#[32]⟩).run Tryd.prog w = .ok (.string (bsv (y ++ [32]))) w := addw y [32] (by simp; omega)
              have hadd2 := addw (y ++ [32]) xt (by simp; omega)
              go_wp2
              go_roundw
              case rel => exact ⟨k + 1, by omega, by go_num, by rw [HJ.out]; simp, trivial⟩
              case measure => simp [intOf]; omega
            · obtain rfl : k = ts.length := by omega
              have hte : (ts.map wd).take ts.length = ts.map wd := List.take_of_length_le (by simp)
              rw [hte]
              clear hte hlt hk hR
              have hyl := HJL.out
              generalize Tk.joinS (ts.map wd) = y at *
              have H2 := Lib.hid (parse_bad HP2.out (by omega) w4 hT4)
              clear HP2
              go_wp2_with fail
              refine H2.out.mono ?_
              rintro e w5 ⟨rfl, hb5⟩
              have lo5 := lowAlloc w5 (Obj.cells #[.int .i64 0, .string ⟨#[]⟩, .int .i64 0, .slice none 0 0] 24)
              have hy5 := Blk.new w5 24 #[.int .i64 0, .string ⟨#[]⟩, .int .i64 0, .slice none 0 0]
              have hx5 := (hx4.below hb5 hx4.lt).below lo5 (hx4.below hb5 hx4.lt).lt
              have hF5 := (hF4.on hb5).on lo5
              have hG5 := noF_fv (w5.alloc (Obj.cells #[.int .i64 0, .string ⟨#[]⟩, .int .i64 0, .slice none 0 0] 24))
              have hlo6 := hlo5.trans (hb5.mono hlo5.size)
              have hlo7 := hlo6.trans (lo5.mono hlo6.size)
              clear H2 hT4 hb5 hlo5 hlo6 lo5 hx4 hF4
              go_upto_region 16 with fail
              generalize w5.alloc (Obj.cells #[.int .i64 0, .string ⟨#[]⟩, .int .i64 0, .slice none 0 0] 24) = W5 at *
              have x0 := hx5.cell 0
              have x1 := hx5.cell 1
              have x2 := hx5.cell 2
              have x3 := hx5.cell 3
              simp only [List.getElem?_toArray, List.getElem?_cons_zero, List.getElem?_cons_succ] at x0 x1 x2 x3
              have y0 := hy5.cell 0
              have y1 := hy5.cell 1
              have y2 := hy5.cell 2
              have y3 := hy5.cell 3
              simp only [List.getElem?_toArray, List.getElem?_cons_zero, List.getElem?_cons_succ] at y0 y1 y2 y3
              have H3 := Lib.hid (same_self noF (by decide) _ _ W5 hF5 hG5)
              go_wp2_with fail
              refine H3.out.mono ?_
              rintro e w6 ⟨rfl, hb6⟩
              have hlo8 := hlo7.trans (hb6.mono hlo7.size)
              clear H3 hb6 hlo7 x0 x1 x2 x3 y0 y1 y2 y3 hx5 hy5 hF5 hG5
              go_wp2
              go_ret
              exact ⟨rfl, hlo8⟩
      · have hpe : Fm.parseS u = .error (40, a) := by unfold Fm.parseS; rw [hA]; rfl
        have H1 := Lib.hid (parse_bad hpe hul w2 hT2)
        clear hpe
        go_wp2_with fail
        refine H1.out.mono ?_
        rintro e w3 ⟨rfl, hb3⟩
        have lo3 := lowAlloc w3 (Obj.cells #[.int .i64 0, .string ⟨#[]⟩, .int .i64 0, .slice none 0 0] 24)
        have hT3 := (hT2.below hb3).below lo3
        have hlo3 := hlo2.trans (hb3.mono hlo2.size)
        have hlo4 := hlo3.trans (lo3.mono hlo3.size)
        clear H1 hT2 hb3 hlo2 hlo3 lo3
        go_upto_region 7 with fail
        generalize w3.alloc (Obj.cells #[.int .i64 0, .string ⟨#[]⟩, .int .i64 0, .slice none 0 0] 24) = W3 at *
        have HL := Lib.hid (lex_any u W3 hul hT3.sig hT3.lt)
        unfold LexP at HL
        rw [hA] at HL
        have HL2 : Hid (Calls Tryd.prog 22 #[.string (bsv u)] W3 fun e w' => ∃ v, e = .returned (.tuple #[v, .int .i64 40, .int .i64 (a : Int)]) ∧ w'.ownsRow W3.heap.size 53 3 v 0 [] ∧ Below W3.heap.size W3 w') := HL.out
        clear HL hA
        go_wp2_with fail
        refine HL2.out.mono ?_
        rintro e w4 ⟨v, rfl, hrow, hb4⟩
        have hlo5 := hlo4.trans (hb4.mono hlo4.size)
        clear HL2 hrow hb4 hlo4
        go_wp2
        go_ret
        exact ⟨rfl, hlo5⟩
end Go.Proofs.YtlddnejjpekgeaaDoor
/- The rows of layer 9: what the row's condition says of the signs (two tables of Go's library stand beside them). -/
namespace Go.Proofs.YtlddnejjpekgeaaDoor
section
open Go.ChangeMaps Go.ChangeShapes Go.WideShapes Go.ChangeAt Go.RowKit
def laid9 : List (String × DataW Unit) := [("unicode/utf8.acceptRanges", Rows.laid_unicode_utf8_acceptRanges), ("parterre/token.signs", Rows.laid_parterre_token_signs), ("unicode/utf8.first", Rows.laid_unicode_utf8_first)]
set_option maxRecDepth 100000 in
theorem door_met9 (os : Os) (args : Array Value) : laidMetH Tryd.prog laid9 ((World.laidAll Tryd.prog os laid9).forCall (fun _ _ => 0) ⟨#[], args, []⟩).memory := by
  rw [MakeChecks.laidMetH_plain _ _ _ (by kernel_rfl)]
  exact laidMet_laidAll _ (by kernel_rfl) (by kernel_rfl)
theorem of_laid9 {W : World} (h : laidMetH Tryd.prog laid9 W) : Tabs W := by
  rw [MakeChecks.laidMetH_plain _ _ _ (by kernel_rfl)] at h
  obtain ⟨ps, ⟨g9, t9, cs9, f9, p9, q9, hg9, ht9, hv9, hd9, ⟨g0, t0, cs0, f0, p0, q0, hg0, ht0, hv0, hd0, _⟩, _⟩, _⟩ := h
  clear hd9
  obtain rfl := Option.some.inj (gSigns.symm.trans hg0)
  obtain rfl := Option.some.inj (tSigns.symm.trans ht0)
  have hcell : ∀ i, W.cell? ⟨0, i, none⟩ = cs0.toList[i]? := fun i => by
    have := World.var?_cell hg0 hv0 i
    rw [Array.getElem?_toList]
    simpa using this
  obtain ⟨xs, m1, rfl, hx1, hlen, hn3, hel⟩ := DataW.trod_array Tryd.underlying101 hd0
  rw [cStr] at hel
  simp only [Prod.mk.injEq, Rows.laid_parterre_token_signs, DataW.agg.injEq] at hx1
  match xs, hn3, hx1, hel with
  | [x0, x1, x2, x3, x4, x5, x6, x7, x8], _, hx1, hel =>
    simp only [List.map_cons, List.map_nil, List.cons.injEq] at hx1
    obtain ⟨⟨e0, e1, e2, e3, e4, e5, e6, e7, e8, _⟩, _⟩ := hx1
    have one : ∀ (i : Nat) (x : DataW Unit × List MemPlace) (l : List UInt8), ([x0, x1, x2, x3, x4, x5, x6, x7, x8] : List (DataW Unit × List MemPlace))[i]? = some x → i < 9 → DataW.lit (.string l) = x.1 → W.cell? ⟨0, i, none⟩ = some (.string (bsv l)) := by
      intro i x l hi h9 he
      have h1 := (hel i h9).trans hi
      obtain ⟨s, hc, hs, _⟩ := DataW.trod_string Tryd.underlying9 h1
      have h2 : cs0.toList[i]? = some (.string s) := by
        have := congrArg (·[0]?) hc
        simpa [List.getElem?_take, List.getElem?_drop] using this
      rw [hs] at he
      have h3 : l = s.data.toList := by simpa using he
      rw [hcell, h2, h3]
      rfl
    have hs : Sig W := by
      intro i hi
      have : i = 0 ∨ i = 1 ∨ i = 2 ∨ i = 3 ∨ i = 4 ∨ i = 5 ∨ i = 6 ∨ i = 7 ∨ i = 8 := by omega
      rcases this with rfl | rfl | rfl | rfl | rfl | rfl | rfl | rfl | rfl
      · exact one 0 x0 _ rfl hi e0
      · exact one 1 x1 _ rfl hi e1
      · exact one 2 x2 _ rfl hi e2
      · exact one 3 x3 _ rfl hi e3
      · exact one 4 x4 _ rfl hi e4
      · exact one 5 x5 _ rfl hi e5
      · exact one 6 x6 _ rfl hi e6
      · exact one 7 x7 _ rfl hi e7
      · exact one 8 x8 _ rfl hi e8
    exact ⟨hs, World.block_lt_of_cell? W ⟨0, 0, none⟩ (hs 0 (by omega))⟩
end
end Go.Proofs.YtlddnejjpekgeaaDoor
