/- What the reference's Copy keeps while it goes through the gates. -/
import Derived.Test.YtjjdgiondpnpcaaRC
namespace Go.Proofs.Ytjjdgiondpnpcaa
open Go.RowKit Go.Shelf

theorem rem_isL {x l : Int} (h0 : 0 ≤ x) (h1 : x ≤ 4001) : bits .xor .i64 x (l % 2) = if l % 2 = 1 then Gm.negB x else x := by
  by_cases h : l % 2 = 1
  · rw [if_pos h, h, Gm.bits_neg x h0 (by omega)]
  · rw [if_neg h, show l % 2 = 0 by omega, xor_zero x h0 (by omega)]
theorem wrapq {l : Int} (h0 : 0 ≤ l) (h1 : l ≤ 1000000) : IntKind.i64.wrap (l.tdiv 2) = ((Cm.vr l : Nat) : Int) := by
  rw [Int.tdiv_eq_ediv_of_nonneg h0, ← quo2 h0, IntKind.wrap_i64]
  omega
theorem wrapm {l : Int} (h0 : 0 ≤ l) : IntKind.i64.wrap (l.tmod 2) = l % 2 := by
  rw [Int.tmod_eq_emod_of_nonneg h0, IntKind.wrap_i64]
  omega
theorem Cm.Sm.snoc {is : List Int} (h : Cm.Sm is) {x : Int} (h0 : 0 ≤ x) (h1 : x ≤ 4001) : Cm.Sm (is ++ [x]) := by
  intro u
  have := h u
  rw [List.getD_eq_getElem?_getD] at this ⊢
  by_cases hu : u < is.length
  · rwa [List.getElem?_append_left hu]
  · rw [List.getElem?_append_right (by omega)]
    cases u - is.length with
    | zero => simp; omega
    | succ n => simp
theorem Cm.Sm.cons {by_ : List Int} (h : ∀ x ∈ by_, 0 ≤ x ∧ x ≤ 4001) : Cm.Sm (0 :: by_) := by
  have := Cm.Sm.img0 h 0
  simpa [Cm.img0] using this
theorem OwnV.lt {w : World} {base : Nat} {e : TypeId} {v : Value} {vs : List Value} (h : OwnV w base e v vs) : ∀ k, v.ownBlock = some k → k < w.heap.size := by
  obtain ⟨_, h2⟩ := h
  rcases h2 with ⟨rfl, _⟩ | ⟨g, cap, cur, rfl, _, hh, _⟩
  · intro k hk; cases hk
  · intro k hk; injection hk with hk; subst hk; exact Blk.lt (t := e) hh
theorem Gr.keep1 {w w' : World} {B : Nat} {A : Option Addr} {gs : List (Int × Int)} (h : Gr w B A gs) (hk : ∀ ad, A = some ad → 0 < gs.length → w'.heap[ad.block]? = w.heap[ad.block]?) : Gr w' B A gs := by
  intro k hlt
  obtain ⟨b, off, rfl, hb, h1, h2⟩ := h k hlt
  have e : w'.heap[b]? = w.heap[b]? := hk _ rfl (by omega)
  exact ⟨b, off, rfl, hb, (World.cell?_of_block (a := ⟨b, off + k * 2, none⟩) e).trans h1, (World.cell?_of_block (a := ⟨b, off + k * 2 + 1, none⟩) e).trans h2⟩
theorem ref_ne {r : Gm.Res} {A A' : Option Addr} {gs : List (Int × Int)} {w V : World} {B k : Nat} (hg : Gr w B A gs) (hs : (A' = A ∧ r.1.2 = gs) ∨ Sep 0 V.heap.size A') (hB : B ≤ k) (hk : k < V.heap.size) : 0 < r.1.2.length → ∀ ad, A' = some ad → ad.block ≠ k := by
  intro hp ad e
  rcases hs with ⟨rfl, h⟩ | h
  · rw [h] at hp
    obtain ⟨b, o, e', hb, _⟩ := hg 0 hp
    rw [e'] at e
    injection e with e
    subst e
    simp
    omega
  · exact h.ne (Nat.zero_le _) hk ad e
structure CR (w wr : World) (nt : Int) (A : Option Addr) (c : Nat) (t : List (Int × Int)) (nf : Int) (sf : Value) (mb : Nat) (ms : List Bool) (v : Value) (is : List Int) : Prop where
  low : Below w.heap.size w wr
  bt : Blk wr w.heap.size 26 #[.int .i64 nt, .slice A t.length c]
  bf : Blk wr (w.heap.size + 1) 26 #[.int .i64 nf, sf]
  br : Blk wr (w.heap.size + 1 + 1) 26 #[.int .i64 0, .slice none 0 0]
  bm : Blk wr mb 4 (bv ms).toArray
  gr : Gr wr wr.heap.size A t
  own : OwnV wr (w.heap.size + 1 + 1 + 1) 3 v (iv is)
  am : w.heap.size + 1 + 1 < mb
  vm : v.ownBlock ≠ some mb
  ne : 0 < t.length → ∀ ad, A = some ad → ad.block ≠ w.heap.size ∧ ad.block ≠ w.heap.size + 1 + 1 ∧ v.ownBlock ≠ some ad.block
section
variable {w wr : World} {nt : Int} {A : Option Addr} {c : Nat} {t : List (Int × Int)} {nf : Int} {sf : Value} {mb : Nat} {ms : List Bool} {v : Value} {is : List Int}
theorem CR.below {W : World} (h : CR w wr nt A c t nf sf mb ms v is) (hb : Below wr.heap.size wr W) : CR w W nt A c t nf sf mb ms v is :=
  ⟨h.low.trans (hb.mono h.low.size), h.bt.below hb h.bt.lt, h.bf.below hb h.bf.lt, h.br.below hb h.br.lt, h.bm.below hb h.bm.lt, (h.gr.below hb (Nat.le_refl _)).more hb.size, h.own.below hb, h.am, h.vm, h.ne⟩
theorem CR.cells (h : CR w wr nt A c t nf sf mb ms v is) : wr.cell? ⟨w.heap.size, 0, none⟩ = some (.int .i64 nt) ∧ wr.cell? ⟨w.heap.size, 1, none⟩ = some (.slice A t.length c) ∧ wr.cell? ⟨w.heap.size + 1, 0, none⟩ = some (.int .i64 nf) ∧ wr.cell? ⟨w.heap.size + 1, 1, none⟩ = some sf ∧
    wr.frozen? ⟨w.heap.size, 0, none⟩ = false ∧ wr.frozen? ⟨w.heap.size, 1, none⟩ = false :=
  ⟨h.bt.cell 0, h.bt.cell 1, h.bf.cell 0, h.bf.cell 1, h.bt.frozen 0, h.bt.frozen 1⟩
theorem CR.rest (h : CR w wr nt A c t nf sf mb ms v is) : wr.cell? ⟨w.heap.size + 1 + 1, 0, none⟩ = some (.int .i64 0) ∧ wr.cell? ⟨w.heap.size + 1 + 1, 1, none⟩ = some (.slice none 0 0) ∧ wr.frozen? ⟨w.heap.size + 1 + 1, 0, none⟩ = false ∧ wr.frozen? ⟨w.heap.size + 1 + 1, 1, none⟩ = false :=
  ⟨h.br.cell 0, h.br.cell 1, h.br.frozen 0, h.br.frozen 1⟩
theorem CR.mark (h : CR w wr nt A c t nf sf mb ms v is) {i : Nat} (hi : i < ms.length) : wr.cell? ⟨mb, i, none⟩ = some (.bool (ms.getD i false)) := by
  obtain ⟨b, o, e, _, h1⟩ := h.bm.vs.bool i hi
  injection e with e
  injection e with e1 e2
  subst e1 e2
  simpa using h1
theorem CR.b3 (h : CR w wr nt A c t nf sf mb ms v is) : B3 w wr nt (.slice A t.length c) nf sf := ⟨h.low, h.bt, h.bf, h.br⟩
/-- A number is added to the list. -/
theorem CR.push0 {W : World} {v' : Value} {is' : List Int} (h : CR w wr nt A c t nf sf mb ms v is) (ho : OwnV W (w.heap.size + 1 + 1 + 1) 3 v' (iv is')) (hg : wr.grownBy W v.ownBlock) (hv : v'.ownBlock = v.ownBlock ∨ v'.ownBlock = some wr.heap.size) : CR w W nt A c t nf sf mb ms v' is' := by
  have lo : Below (w.heap.size + 1 + 1 + 1) wr W := grown_low2 hg h.own.base (by have := h.br.lt; omega)
  have hml := h.bm.lt
  have hmk : W.heap[mb]? = wr.heap[mb]? := hg.block mb (by omega) (fun e => h.vm e.symm)
  refine ⟨h.low.trans (lo.mono (by omega)), h.bt.below lo (by omega), h.bf.below lo (by omega), h.br.below lo (by omega), h.bm.keep hmk, ?_, ho, h.am, ?_, ?_⟩
  · refine (Gr.keep1 h.gr fun ad e hp => hg.block _ ?_ (fun e2 => (h.ne hp ad e).2.2 e2.symm)).more hg.size
    obtain ⟨b, off, e1, hb, _⟩ := h.gr 0 hp
    rw [e1] at e
    injection e with e
    subst e
    exact hb
  · rcases hv with hv | hv
    · rw [hv]; exact h.vm
    · rw [hv]; intro e; injection e with e; omega
  · intro hp ad e
    obtain ⟨n1, n2, n3⟩ := h.ne hp ad e
    refine ⟨n1, n2, ?_⟩
    rcases hv with hv | hv
    · rw [hv]; exact n3
    · obtain ⟨b, off, e1, hb, _⟩ := h.gr 0 hp
      rw [e1] at e
      injection e with e
      subst e
      rw [hv]; intro e; injection e with e; simp only at e; omega
theorem CR.push {W : World} {v' : Value} {is' : List Int} {o : Obj} (h : CR w wr nt A c t nf sf mb ms v is) (ho : OwnV W (w.heap.size + 1 + 1 + 1) 3 v' (iv is')) (hg : (wr.alloc o).grownBy W v.ownBlock) (hv : v'.ownBlock = v.ownBlock ∨ v'.ownBlock = some (wr.alloc o).heap.size) : CR w W nt A c t nf sf mb ms v' is' :=
  (h.below ((Below.refl wr.heap.size wr).alloc (Nat.le_refl _) o)).push0 ho hg hv
/-- The list at its start. -/
theorem CR.start {W : World} {n1 : Int} {tg : List (Int × Int)} {At : Option Addr} {ct : Nat} (hgt : Gr w w.heap.size At tg) (B : B3 w W n1 (.slice At tg.length ct) nf sf) (hbm : Blk W mb 4 (bv ms).toArray) (hm : w.heap.size + 1 + 1 < mb) :
    CR w (W.alloc (.cells #[.int .i64 0] 3)) n1 At ct tg nf sf mb ms (.slice (some ⟨W.heap.size, 0, none⟩) 1 1) [0] := by
  have hb := (Below.refl W.heap.size W).alloc (Nat.le_refl _) (.cells #[.int .i64 0] 3)
  have hml := hbm.lt
  have lo := B.low.trans (hb.mono B.low.size)
  refine ⟨lo, B.b0.alloc _, B.b1.alloc _, B.b2.alloc _, hbm.alloc _, (hgt.below lo (Nat.le_refl _)).more lo.size, OwnV.one W _ _ _ B.b2.lt, hm, ?_, ?_⟩
  · intro e; injection e with e; simp only at e; omega
  · intro hp ad e
    obtain ⟨b, off, e1, hb, _⟩ := hgt 0 hp
    rw [e1] at e
    injection e with e
    subst e
    have := B.b2.lt
    refine ⟨by simp only; omega, by simp only; omega, ?_⟩
    intro e; injection e with e; simp only at e; omega
/-- What the region with the And leaves. -/
structure RR (W : World) (r : Gm.Res) (A : Option Addr) (t : List (Int × Int)) (k : Nat) (A' : Option Addr) (c' : Nat) (W' : World) : Prop where
  le : W.heap.size ≤ k
  bk : Blk W' k 26 #[.int .i64 r.1.1, .slice A' r.1.2.length c']
  gr : Gr W' W'.heap.size A' r.1.2
  sep : (A' = A ∧ r.1.2 = t) ∨ Sep 0 W.heap.size A'
  low : Below W.heap.size W W'
theorem RR.fresh {W w6 : World} {r : Gm.Res} {A' : Option Addr} {c' : Nat} (lx : Below W.heap.size W w6) (hG : Gr w6 w6.heap.size A' r.1.2) (hs : (A' = A ∧ r.1.2 = t) ∨ Sep 0 W.heap.size A') : RR W r A t w6.heap.size A' c' (w6.alloc (Obj.cells #[.int .i64 r.1.1, .slice A' r.1.2.length c'] 26)) :=
  ⟨lx.size, Blk.new _ _ _, (hG.below ((Below.refl w6.heap.size w6).alloc (Nat.le_refl _) _) (Nat.le_refl _)).more (by simp), hs, lx.alloc lx.size _⟩
theorem RR.old {W w6 : World} {r : Gm.Res} {k : Nat} {A' : Option Addr} {c' : Nat} {u0 u1 : Value} (lx : Below W.heap.size W w6) (hk : W.heap.size ≤ k) (bk : Blk w6 k 26 #[u0, u1]) (hG : Gr w6 w6.heap.size A' r.1.2) (hs : (A' = A ∧ r.1.2 = t) ∨ Sep 0 W.heap.size A') (hne : 0 < r.1.2.length → ∀ ad, A' = some ad → ad.block ≠ k) :
    RR W r A t k A' c' ((w6.setCell ⟨k, 0, none⟩ (.int .i64 r.1.1)).setCell ⟨k, 1, none⟩ (.slice A' r.1.2.length c')) := by
  refine ⟨hk, ?_, ?_, hs, (lx.setCell hk _).setCell hk _⟩
  · have := (bk.put 0 (.int .i64 r.1.1)).put 1 (.slice A' r.1.2.length c')
    simpa using this
  · have := (hG.set0 (p := ⟨k, 0, none⟩) hne (.int .i64 r.1.1)).set0 (p := ⟨k, 1, none⟩) hne (.slice A' r.1.2.length c')
    simpa using this
/-- The graph is replaced by the one that And has made. -/
theorem CR.to {W : World} {r : Gm.Res} {k : Nat} {A' : Option Addr} {c' : Nat} (h : CR w wr nt A c t nf sf mb ms v is) (hR : RR wr r A t k A' c' W) : CR w ((W.setCell ⟨w.heap.size, 0, none⟩ (.int .i64 r.1.1)).setCell ⟨w.heap.size, 1, none⟩ (.slice A' r.1.2.length c')) r.1.1 A' c' r.1.2 nf sf mb ms v is := by
  have h' := h.below hR.low
  have hne : 0 < r.1.2.length → ∀ ad, A' = some ad → ad.block ≠ w.heap.size ∧ ad.block ≠ w.heap.size + 1 + 1 ∧ v.ownBlock ≠ some ad.block := by
    intro hp ad e
    rcases hR.sep with ⟨rfl, h2⟩ | hs
    · exact h.ne (by rw [← h2]; exact hp) ad e
    · have l2 := h.br.lt
      refine ⟨hs.ne (k := w.heap.size) (Nat.zero_le _) (by omega) ad e, hs.ne (k := w.heap.size + 1 + 1) (Nat.zero_le _) l2 ad e, fun e2 => ?_⟩
      exact hs.ne (k := ad.block) (Nat.zero_le _) (h.own.lt _ e2) ad e rfl
  have n1 : w.heap.size + 1 ≠ w.heap.size := by omega
  have n2 : w.heap.size + 1 + 1 ≠ w.heap.size := by omega
  have n3 : mb ≠ w.heap.size := by have := h.am; omega
  refine ⟨(h'.low.setCell (Nat.le_refl _) _).setCell (Nat.le_refl _) _, ?_, (h'.bf.far (p := ⟨w.heap.size, 0, none⟩) n1 _).far (p := ⟨w.heap.size, 1, none⟩) n1 _, (h'.br.far (p := ⟨w.heap.size, 0, none⟩) n2 _).far (p := ⟨w.heap.size, 1, none⟩) n2 _, (h'.bm.far (p := ⟨w.heap.size, 0, none⟩) n3 _).far (p := ⟨w.heap.size, 1, none⟩) n3 _, ?_, ?_, h.am, h.vm, hne⟩
  · have := (h'.bt.put 0 (.int .i64 r.1.1)).put 1 (.slice A' r.1.2.length c')
    simpa using this
  · have := (hR.gr.set0 (p := ⟨w.heap.size, 0, none⟩) (fun hp ad e => (hne hp ad e).1) (.int .i64 r.1.1)).set0 (p := ⟨w.heap.size, 1, none⟩) (fun hp ad e => (hne hp ad e).1) (.slice A' r.1.2.length c')
    simpa using this
  · exact ownsRow_setCell_below (ownsRow_setCell_below h'.own (by simp; omega) _) (by simp; omega) _
/-- The end: the result's box is written. -/
theorem CR.good {A0 : Option Addr} {t0 : List (Int × Int)} {r : Gm.Res} (h : CR w wr r.1.1 A c r.1.2 nf sf mb ms v is) (hs : (A = A0 ∧ r.1.2 = t0) ∨ Sep 0 w.heap.size A) : RefPost r A0 t0 w (.returned (.tuple #[.agg #[.int .i64 r.1.1, .slice A r.1.2.length c], .int .i64 r.2.1, .int .i64 r.2.2])) ((wr.setCell ⟨w.heap.size + 1 + 1, 0, none⟩ (.int .i64 r.1.1)).setCell ⟨w.heap.size + 1 + 1, 1, none⟩ (.slice A r.1.2.length c)) := by
  refine ⟨A, c, rfl, ?_, hs, (h.b3.put _ _).2⟩
  have := (h.gr.set0 (p := ⟨w.heap.size + 1 + 1, 0, none⟩) (fun hp ad e => (h.ne hp ad e).2.1) (.int .i64 r.1.1)).set0 (p := ⟨w.heap.size + 1 + 1, 1, none⟩) (fun hp ad e => (h.ne hp ad e).2.1) (.slice A r.1.2.length c)
  simpa using this
end
end Go.Proofs.Ytjjdgiondpnpcaa
