/- The gates of a cone, one after the other. -/
import Derived.Test.YtjjdgiondpnpcaaCC
namespace Go.Proofs.Ytjjdgiondpnpcaa
open Go.RowKit Go.Shelf

/-- What the iterator over a cone's gates has in its boxes. -/
structure GI (W : World) (gb mx fb mb : Nat) (n : Nat) (A : Option Addr) (c : Nat) (gs : List (Int × Int)) (l : Int) : Prop where
  bg : Blk W gb 26 #[.int .i64 n, .slice A gs.length c]
  bx : Blk W mx 35 #[.slice (some ⟨mb, 0, none⟩) (1 + n + gs.length) (1 + n + gs.length)]
  bf : Blk W fb 3 #[.int .i64 (1 + (n : Int))]
  bm : Blk W mb 4 (bv (Cm.below n gs l)).toArray
section
variable {W W' : World} {gb mx fb mb : Nat} {n : Nat} {A : Option Addr} {c : Nat} {gs : List (Int × Int)} {l : Int}
theorem GI.keep {K : Nat → Prop} (h : GI W gb mx fb mb n A c gs l) (hk : KS K W W') (h1 : K gb) (h2 : K mx) (h3 : K fb) (h4 : K mb) : GI W' gb mx fb mb n A c gs l :=
  ⟨h.bg.keep (hk.same _ h1), h.bx.keep (hk.same _ h2), h.bf.keep (hk.same _ h3), h.bm.keep (hk.same _ h4)⟩
theorem GI.below (h : GI W gb mx fb mb n A c gs l) (hb : Below W.heap.size W W') : GI W' gb mx fb mb n A c gs l :=
  ⟨h.bg.below hb h.bg.lt, h.bx.below hb h.bx.lt, h.bf.below hb h.bf.lt, h.bm.below hb h.bm.lt⟩
theorem GI.alloc (h : GI W gb mx fb mb n A c gs l) (o : Obj) : GI (W.alloc o) gb mx fb mb n A c gs l := h.below ((Below.refl _ _).alloc (Nat.le_refl _) o)
theorem GI.get (h : GI W gb mx fb mb n A c gs l) {i : Nat} (hi : i < n + 1 + gs.length) : W.cell? ⟨mb, i, none⟩ = some (.bool ((Cm.below n gs l).getD i false)) := by
  obtain ⟨b, o, e, _, h1⟩ := h.bm.vs.bool i (by rw [Cm.below_length]; exact hi)
  injection e with e
  injection e with e1 e2
  subst e1 e2
  simpa using h1
end
/-- Gate i stands in the cone. -/
abbrev inCone (n : Nat) (gs : List (Int × Int)) (l : Int) (i : Nat) : Bool := (Cm.below n gs l).getD (n + 1 + i) false

attribute [local go_sem] Oper.semAt_some
set_option maxRecDepth 100000 in
set_option maxHeartbeats 4000000 in
theorem gates1_in (m l' gb mx fb mb B : Nat) (n : Nat) (A : Option Addr) (c : Nat) (gs : List (Int × Int)) (l : Int) (K : Nat → Prop) (hm : 1 ≤ m) (hn : 1 + n + gs.length ≤ 2000) (hK1 : K gb) (hK2 : K mx) (hK3 : K fb) (hK4 : K mb) (hKB : ∀ b, b < B → K b) (J Jx : List (Fin gs.length) → World → Prop)
    (W : World) (hJ : AbidesFrom W.heap.size J)
    (hY : ∀ pre (x : Fin gs.length) W, J pre W → pre.length < gs.length → YieldAt Fence.wide (m - 1) Try.prog l' (gateV gs (1 + n) x) W fun e W' =>
      (e = .returned (.bool true) ∧ J (pre ++ [x]) W' ∧ KS K W W') ∨ (e = .returned (.bool false) ∧ Jx (pre ++ [x]) W'))
    (hI : GI W gb mx fb mb n A c gs l) (hG : Gr W B A gs) (hKl : ∀ b, K b → b < W.heap.size) (h0 : J [] W) :
    CallsIn Fence.wide m Try.prog 38 #[.func (.yield l') #[] #[], .pointer (some ⟨gb, 0, none⟩), .pointer (some ⟨mx, 0, none⟩), .pointer (some ⟨fb, 0, none⟩)] W fun e W' => (∃ v, e = .returned v) ∧
      ((∃ ys, ys = upF gs.length (inCone n gs l) gs.length ∧ J ys W') ∨ (∃ pre, (∃ k, k ≤ gs.length ∧ pre = upF gs.length (inCone n gs l) k) ∧ Jx pre W')) := by
  have k1 := hI.bg.cell 1
  simp only [List.getElem?_toArray, List.getElem?_cons_zero, List.getElem?_cons_succ] at k1
  refine callsIn_of_wp Try.func38 rfl trivial ?_ rfl
  simp only [Try.ntmps38, List.size_toArray, List.length_cons, List.length_nil, Nat.reduceAdd, Nat.reduceSub, Array.replicate_succ, Array.replicate_zero, List.push_toArray, List.append_toArray, List.nil_append, List.cons_append]
  gi_wp2
  gi_loopw [10] (fun i wr => ∃ k : Nat, k ≤ gs.length ∧ i = .int .i64 k ∧ J (upF gs.length (inCone n gs l) k) wr ∧ KS K W wr)
    (fun i _ => gs.length - (intOf i).toNat)
  case atStart => exact ⟨0, Nat.zero_le _, rfl, h0, KS.refl _ _⟩
  case round =>
    obtain ⟨k, hk, rfl, hJs, hks⟩ := hrel
    by_cases hlt : k < gs.length
    · obtain ⟨b, off, hA, hb, g1, g2⟩ := (hks.gr hKB hG) k hlt
      subst hA
      have hI1 := hI.keep hks hK1 hK2 hK3 hK4
      have hix := ix2 b off gs.length c k (by omega) hlt
      have hka : KS K wr (wr.alloc (Obj.cells #[.int .i64 (gs[k]).1, .int .i64 (gs[k]).2] 44)) := KS.of_below (B := wr.heap.size) (fun b h => Nat.lt_of_lt_of_le (hKl b h) hks.size) ((Below.refl _ _).alloc (Nat.le_refl _) _)
      have hI2 := hI1.alloc (Obj.cells #[.int .i64 (gs[k]).1, .int .i64 (gs[k]).2] 44)
      have hJ2 : J (upF gs.length (inCone n gs l) k) (wr.alloc (Obj.cells #[.int .i64 (gs[k]).1, .int .i64 (gs[k]).2] 44)) := hJ _ wr _ none hJs (World.grownBy_alloc wr _ none) (fun r e => by cases e)
      obtain ⟨fn, tmps, assign, body, hy, hR⟩ := hY _ ⟨k, hlt⟩ _ hJ2 (Nat.lt_of_le_of_lt (upF_le k) hlt)
      dsimp only [gateV] at hy
      have hsY := fun h => upF_yes (p := inCone n gs l) hlt h
      have hsN := fun h => upF_no (m := gs.length) (k := k) (p := inCone n gs l) h
      have HSY := Lib.hid hsY
      have HSN := Lib.hid hsN
      clear hsY hsN
      have c2 := hI2.bx.cell 0
      have c3 := hI2.bf.cell 0
      have cm := hI2.get (i := n + 1 + k) (by omega)
      have hix2 := ixB0 mb (1 + n + gs.length) (n + 1 + k) (by omega) (by omega)
      rw [show ((n + 1 + k : Nat) : Int) = 1 + (n : Int) + (k : Int) by omega] at hix2
      simp only [List.getElem?_toArray, List.getElem?_cons_zero, List.getElem?_cons_succ] at c2 c3
      generalize gs[k] = g at *
      obtain ⟨x, y⟩ := g
      simp only at g1 g2 hy hR c2 c3 cm hka hJ2
      unfold inCone at HSY HSN
      cases hin : (Cm.below n gs l).getD (n + 1 + k) false with
      | false =>
        rw [hin] at cm
        have HN := Lib.hid (HSN.out hin)
        clear hin
        gi_wp2
        all_goals (try (refine ⟨fun _ h => (by cases h), ?_⟩; gi_wp2))
        go_roundw
        case rel => exact ⟨k + 1, by omega, by simp, by unfold inCone; rw [HN.out]; exact hJ2, hks.trans hka⟩
        case measure => simp [intOf]; omega
      | true =>
        rw [hin] at cm
        have HN := Lib.hid (HSY.out hin)
        clear hin
        gi_wp2
        refine hR.mono ?_
        rintro e W3 (⟨rfl, hJ3, hk3⟩ | ⟨rfl, hJx3⟩)
        · gi_wp2
          go_roundw
          case rel => exact ⟨k + 1, by omega, by simp, by unfold inCone; rw [HN.out]; exact hJ3, (hks.trans hka).trans hk3⟩
          case measure => simp [intOf]; omega
        · gi_wp2
          refine bodyPost_ret (results_none rfl _ _ _) rfl ?_
          exact ⟨⟨_, rfl⟩, .inr ⟨_, ⟨k + 1, by omega, by unfold inCone; rw [HN.out]⟩, hJx3⟩⟩
    · obtain rfl : k = gs.length := by omega
      gi_wp2
      go_end0
      exact ⟨⟨_, rfl⟩, .inl ⟨_, rfl, hJs⟩⟩
theorem gates_stops (m gb mx fb mb B : Nat) (n : Nat) (A : Option Addr) (c : Nat) (gs : List (Int × Int)) (l : Int) (K : Nat → Prop) (hm : 1 ≤ m) (hn : 1 + n + gs.length ≤ 2000) (hK1 : K gb) (hK2 : K mx) (hK3 : K fb) (hK4 : K mb) (hKB : ∀ b, b < B → K b) (w : World) (hB : B ≤ w.heap.size) (hKl : ∀ b, K b → b < w.heap.size)
    (hI : GI w gb mx fb mb n A c gs l) (hG : Gr w B A gs) :
    SeqStopsK Fence.wide m Try.prog 38 #[.pointer (some ⟨gb, 0, none⟩), .pointer (some ⟨mx, 0, none⟩), .pointer (some ⟨fb, 0, none⟩)] (gateV gs (1 + n)) (KS K) (fun ys => ys = upF gs.length (inCone n gs l) gs.length) (fun pre => ∃ k, k ≤ gs.length ∧ pre = upF gs.length (inCone n gs l) k) gs.length w := fun l' J Jx W hW hJ _ hY h0 =>
  gates1_in m l' gb mx fb mb B n A c gs l K hm hn hK1 hK2 hK3 hK4 hKB J Jx W hJ hY (hI.below hW) (hG.below hW hB) (fun b h => Nat.lt_of_lt_of_le (hKl b h) hW.size) h0

/-- What gates answers. -/
def GPost (n : Nat) (A : Option Addr) (c : Nat) (gs : List (Int × Int)) (l : Int) (w : World) (e : Ending) (w' : World) : Prop :=
  ∃ mx mb, e = .returned (.func (.func 38) #[] #[.pointer (some ⟨w.heap.size, 0, none⟩), .pointer (some ⟨mx, 0, none⟩), .pointer (some ⟨w.heap.size + 1, 0, none⟩)]) ∧ w.heap.size ≤ mx ∧ w.heap.size ≤ mb ∧ GI w' w.heap.size mx (w.heap.size + 1) mb n A c gs l ∧ Below w.heap.size w w'
set_option maxRecDepth 100000 in
set_option maxHeartbeats 4000000 in
theorem gates_any (n : Nat) (A : Option Addr) (c : Nat) (gs : List (Int × Int)) (l : Int) (w : World) (hg : Gr w w.heap.size A gs) (hr : Gm.rightB n gs = true) (hl : Gm.litB n gs.length l = true) :
    Calls Try.prog 27 #[.agg #[.int .i64 n, .slice A gs.length c], .int .i64 l] w (GPost n A c gs l w) := by
  obtain ⟨hn0, hn1, hn2, _⟩ := right_facts hr
  have lo : Below w.heap.size w ((w.alloc (Obj.cells #[.int .i64 n, .slice A gs.length c] 26)).alloc (Obj.cells #[.int .i64 (1 + n)] 3)) := ((Below.refl _ _).alloc (Nat.le_refl _) _).alloc (by simp) _
  have b0 : Blk ((w.alloc (Obj.cells #[.int .i64 n, .slice A gs.length c] 26)).alloc (Obj.cells #[.int .i64 (1 + n)] 3)) w.heap.size 26 #[.int .i64 n, .slice A gs.length c] := (Blk.new w _ _).alloc _
  have b1 : Blk ((w.alloc (Obj.cells #[.int .i64 n, .slice A gs.length c] 26)).alloc (Obj.cells #[.int .i64 (1 + n)] 3)) (w.heap.size + 1) 3 #[.int .i64 (1 + n)] := by
    have := Blk.new (w.alloc (Obj.cells #[.int .i64 n, .slice A gs.length c] 26)) 3 #[.int .i64 (1 + n)]
    simpa using this
  have HM := Lib.hid (marked_any n A c gs l ((w.alloc (Obj.cells #[.int .i64 n, .slice A gs.length c] 26)).alloc (Obj.cells #[.int .i64 (1 + n)] 3)) ((hg.below lo (Nat.le_refl _)).more lo.size) hr hl)
  clear hr hl
  go_enter Try.func27, Try.ntmps27
  go_wp2_with (go_at_call 23; refine HM.out.mono ?_; rintro e w1 ⟨mb, rfl, hmb, hbm, hb1⟩)
  go_ret
  have lo1 := lo.trans (hb1.mono lo.size)
  refine ⟨w1.heap.size, mb, rfl, lo1.size, Nat.le_trans lo.size hmb, ⟨(b0.below hb1 b0.lt).alloc _, Blk.new w1 _ _, (b1.below hb1 b1.lt).alloc _, hbm.alloc _⟩, lo1.alloc lo1.size _⟩
end Go.Proofs.Ytjjdgiondpnpcaa
