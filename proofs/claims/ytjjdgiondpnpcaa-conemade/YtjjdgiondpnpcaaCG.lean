/- A cone is copied. -/
import Derived.Test.YtjjdgiondpnpcaaCF
import Derived.Laws.EntriesVeiled
namespace Go.Proofs.Ytjjdgiondpnpcaa
open Go.RowKit Go.Shelf

theorem Gr.own {W W' : World} {B : Nat} {A : Option Addr} {gs : List (Int × Int)} {row : Option Nat} (h : Gr W W.heap.size A gs) (hg : W.grownBy W' row) (hr : ∀ r, row = some r → B ≤ r ∧ ∃ o : Obj, W.heap[r]? = some o ∧ o.isCells = false) : Gr W' W'.heap.size A gs := by
  intro k hk
  obtain ⟨b, off, e, hb, h1, h2⟩ := h k hk
  exact ⟨b, off, e, Nat.lt_of_lt_of_le hb hg.size, cell_kept h1 hg (fun r e => (hr r e).2), cell_kept h2 hg (fun r e => (hr r e).2)⟩

/-- What copied keeps in its boxes. -/
structure CI (w W : World) (nt : Int) (A : Option Addr) (c : Nat) (t : List (Int × Int)) (N : Nat) (is : List Int) : Prop where
  low : Below w.heap.size w W
  bt : Blk W w.heap.size 26 #[.int .i64 nt, .slice A t.length c]
  gr : Gr W W.heap.size A t
  sep : Sep 0 (w.heap.size + 8) A
  r8 : Blk W (w.heap.size + 1 + 1) 26 #[.int .i64 0, .slice none 0 0]
  r9 : Blk W (w.heap.size + 1 + 1 + 1) 3 #[.int .i64 0]
  r10 : Blk W (w.heap.size + 1 + 1 + 1 + 1) 41 #[.int .i64 0]
  bi : Blk W (w.heap.size + 1 + 1 + 1 + 1 + 1) 3 (iv is).toArray
  bx : Blk W (w.heap.size + 1 + 1 + 1 + 1 + 1 + 1) 29 #[.slice (some ⟨w.heap.size + 1 + 1 + 1 + 1 + 1, 0, none⟩) N N]
  bf : Blk W (w.heap.size + 1 + 1 + 1 + 1 + 1 + 1 + 1) 60 #[.func (.func 39) #[] #[.pointer (some ⟨w.heap.size + 1 + 1 + 1 + 1 + 1 + 1, 0, none⟩)]]
section
variable {w W W' : World} {nt : Int} {A : Option Addr} {c : Nat} {t : List (Int × Int)} {N : Nat} {is : List Int}
theorem CI.own {B : Nat} {row : Option Nat} (h : CI w W nt A c t N is) (hB : w.heap.size ≤ B) (hg : W.grownBy W' row) (hr : ∀ r, row = some r → B ≤ r ∧ ∃ o : Obj, W.heap[r]? = some o ∧ o.isCells = false) : CI w W' nt A c t N is :=
  ⟨below_own h.low (Nat.le_refl _) hB hg hr, h.bt.own hg hr, h.gr.own hg hr, h.sep, h.r8.own hg hr, h.r9.own hg hr, h.r10.own hg hr, h.bi.own hg hr, h.bx.own hg hr, h.bf.own hg hr⟩
theorem CI.below (h : CI w W nt A c t N is) (hb : Below W.heap.size W W') : CI w W' nt A c t N is :=
  ⟨h.low.trans (hb.mono h.low.size), h.bt.below hb h.bt.lt, (h.gr.below hb (Nat.le_refl _)).more hb.size, h.sep, h.r8.below hb h.r8.lt, h.r9.below hb h.r9.lt, h.r10.below hb h.r10.lt, h.bi.below hb h.bi.lt, h.bx.below hb h.bx.lt, h.bf.below hb h.bf.lt⟩
theorem CI.alloc (h : CI w W nt A c t N is) (o : Obj) : CI w (W.alloc o) nt A c t N is := h.below ((Below.refl _ _).alloc (Nat.le_refl _) o)
end

theorem wpList_copy_grown {P : Program} {w : World} {ops : Array Oper} {rest : List Oper} {o : Oper} {a : Act} {Q : Exit → Act → World → Prop} (hgd : o.guard = none) (d s : Operand) (dT sT : TypeId)
    (ho : o.op = .call { callee := .builtin .copy, args := #[d, s], argTypes := #[dT, sT] }) (elem : TypeId) (hu : P.underlying dT = some (.slice elem)) (hsz : (P.info? elem).map (·.size) = some 1)
    (dp sp : Option Addr) (dLen dCap sLen sCap : Nat) (hd : a.eval d = .slice dp dLen dCap) (hs : a.eval s = .slice sp sLen sCap)
    (g off : Nat) (cur : List Value) (t : TypeId) (hg : w.heap[g]? = some (.cells cur.toArray t (0, 0))) (cs : List Value) (hn : cs.length = Nat.min sLen dLen)
    (hpos : 0 < cs.length → dp = some ⟨g, off, none⟩ ∧ ∃ ad, sp = some ad ∧ ∀ j v, cs[j]? = some v → w.cell? (ad.add j) = some v)
    (hfit : off + cs.length ≤ cur.length) (h1 : ∀ v ∈ cs, v.oneCell' = true)
    (h : ∀ w', Hid (Blk w' g t (splice cur off cs).toArray) → w.grownBy w' (some g) → Hid (w'.heap.size = w.heap.size) → wpList P ops Q rest (a.put o.dst (goInt cs.length)) w') :
    wpList P ops Q (o :: rest) a w := by
  by_cases h0 : cs.length = 0
  · obtain rfl : cs = [] := List.eq_nil_of_length_eq_zero h0
    refine wpList_copy_nothing hgd d s dT sT ho elem hu hsz dp sp dLen dCap sLen sCap hd hs (by simpa using hn.symm) ?_
    exact h w (show _ = _ by simpa [splice] using hg) (World.grownBy.refl w _) (show _ = _ from rfl)
  · obtain ⟨rfl, ad, rfl, hsrc⟩ := hpos (by omega)
    refine wpList_copy_own hgd d s dT sT ho elem hu hsz g off dLen dCap ad sLen sCap hd hs cur.toArray t hg cs hn hsrc (by simpa using hfit) h1 ?_
    exact h _ (show _ = _ by simpa [splice] using setRow_heap w g _ _ t _ hg) ⟨rfl, rfl, rfl, by simp [World.setRow], fun k _ hk => setRow_other w g k _ (fun e => hk (by rw [e]))⟩ (show _ = _ by simp [World.setRow])
theorem img_splice (by_ : List Int) (m : Nat) : splice (Value.int .i64 0 :: List.replicate (by_.length + m) (.int .i64 0)) 1 (iv by_) = iv (Cm.img0 by_ m) := by
  have := splice_row (.int .i64 0) (.int .i64 0) (iv by_) m
  rw [List.length_map] at this
  rw [this]
  simp [Cm.img0, iv]
theorem zeros_cons (N : Nat) : zeros (1 + N) = (Value.int .i64 0 :: List.replicate N (.int .i64 0)).toArray := by
  apply Array.ext'
  simp [zeros, Nat.add_comm 1, List.replicate_succ]

theorem KS.set {K : Nat → Prop} {W : World} {p : Addr} (h : ¬ K p.block) (v : Value) : KS K W (W.setCell p v) := ⟨by simp, fun b hb => Below.heap_setCell W _ _ b (fun e => h (e ▸ hb))⟩
theorem KS.drew {K : Nat → Prop} {W W' : World} (h : KS K W W') : KS K W W'.drew := ⟨h.size, h.same⟩
theorem KeepsFrom.of_below {B : Nat} {W W' : World} (h : Below W.heap.size W W') : KeepsFrom B W W' := ⟨h.size, fun k o _ hk _ => (h.block k (Array.getElem?_eq_some_iff.1 hk).1).trans hk⟩
theorem CI.step {w W : World} {nt : Int} {A A' : Option Addr} {c c' : Nat} {t t' : List (Int × Int)} {N : Nat} {is : List Int} (h : CI w W nt A c t N is) (hG : Gr W W.heap.size A' t') (hs : Sep 0 (w.heap.size + 8) A') (i : Nat) (x : Int) :
    CI w (((W.setCell ⟨w.heap.size, 0, none⟩ (.int .i64 nt)).setCell ⟨w.heap.size, 1, none⟩ (.slice A' t'.length c')).setCell ⟨w.heap.size + 1 + 1 + 1 + 1 + 1, i, none⟩ (.int .i64 x)) nt A' c' t' N (is.set i x) := by
  refine ⟨((h.low.setCell (by simp) _).setCell (by simp) _).setCell (by simp <;> omega) _, ?_, ?_, hs, ?_, ?_, ?_, ?_, ?_, ?_⟩
  · refine Blk.far ?_ (by simp <;> omega) _
    have := (h.bt.put 0 (.int .i64 nt)).put 1 (.slice A' t'.length c')
    simpa using this
  · have := ((hG.set (p := ⟨w.heap.size, 0, none⟩) (hs.ne (k := w.heap.size) (Nat.zero_le _) (by omega)) (.int .i64 nt)).set (p := ⟨w.heap.size, 1, none⟩) (hs.ne (k := w.heap.size) (Nat.zero_le _) (by omega)) (.slice A' t'.length c')).set (p := ⟨w.heap.size + 1 + 1 + 1 + 1 + 1, i, none⟩) (hs.ne (k := w.heap.size + 1 + 1 + 1 + 1 + 1) (Nat.zero_le _) (by omega)) (.int .i64 x)
    simpa using this
  · exact ((h.r8.far (by simp <;> omega) _).far (by simp <;> omega) _).far (by simp <;> omega) _
  · exact ((h.r9.far (by simp <;> omega) _).far (by simp <;> omega) _).far (by simp <;> omega) _
  · exact ((h.r10.far (by simp <;> omega) _).far (by simp <;> omega) _).far (by simp <;> omega) _
  · rw [← iv_set]
    exact ((h.bi.far (by simp <;> omega) _).far (by simp <;> omega) _).put i _
  · exact ((h.bx.far (by simp <;> omega) _).far (by simp <;> omega) _).far (by simp <;> omega) _
  · exact ((h.bf.far (by simp <;> omega) _).far (by simp <;> omega) _).far (by simp <;> omega) _
theorem CI.drew {w W : World} {nt : Int} {A : Option Addr} {c : Nat} {t : List (Int × Int)} {N : Nat} {is : List Int} (h : CI w W nt A c t N is) : CI w W.drew nt A c t N is :=
  ⟨h.low.drew, h.bt, h.gr, h.sep, h.r8, h.r9, h.r10, h.bi, h.bx, h.bf⟩
theorem below_drewE {B : Nat} {a b c : World} (h : Below B a b) (hc : ∃ m, c = b.drewN m) : Below B a c := by
  obtain ⟨m, rfl⟩ := hc
  exact below_drewN h m
theorem Blk.drewE {b c : World} {g : Nat} {t : TypeId} {cs : Array Value} (h : Blk b g t cs) (hc : ∃ m, c = b.drewN m) : Blk c g t cs := by
  obtain ⟨m, rfl⟩ := hc
  exact h.drewN m
theorem and_ins (n : Int) (gs : List (Int × Int)) (a b : Int) : (Gm.andS n gs a b).2.2 = 0 → (Gm.andS n gs a b).1.1 = n := by
  rcases andS_cases n gs a b with e | ⟨_, ⟨l, hs, e⟩ | ⟨hs, hi, e⟩ | ⟨hs, hi, h2, e⟩ | ⟨hs, hi, h2, e⟩⟩ <;> rw [e] <;> simp [Gm.bad]
/-- What holds when the gates of pre have come. -/
def CL (w W : World) (nt nf : Nat) (tg fg : List (Int × Int)) (by_ : List Int) (pre : List (Fin fg.length)) : Prop :=
  ∃ A c t is, Cm.foldF nt nf fg (tg, Cm.img0 by_ fg.length) pre = .ok (t, is) ∧ CI w W nt A c t (1 + (nf + fg.length)) is ∧ t.length ≤ tg.length + pre.length ∧ is.length = 1 + (nf + fg.length) ∧ Cm.Sm is ∧ Wf t
/-- What holds when an And has failed. -/
def CX (w W : World) (nt nf : Nat) (tg fg : List (Int × Int)) (by_ : List Int) (c : Code) (pre : List (Fin fg.length)) : Prop :=
  c = .ret ∧ ∃ er, Cm.foldF nt nf fg (tg, Cm.img0 by_ fg.length) pre = .error er ∧ Blk W (w.heap.size + 1 + 1) 26 #[.int .i64 0, .slice none 0 0] ∧ Blk W (w.heap.size + 1 + 1 + 1) 3 #[.int .i64 0] ∧ Blk W (w.heap.size + 1 + 1 + 1 + 1) 41 #[.int .i64 er] ∧ Below w.heap.size w W
/-- What the region with the And leaves. -/
def AR (W : World) (r : Gm.Res) (k : Nat) (A' : Option Addr) (c' : Nat) (W' : World) : Prop :=
  W.heap.size ≤ k ∧ Blk W' k 26 #[.int .i64 r.1.1, .slice A' r.1.2.length c'] ∧ Gr W' W'.heap.size A' r.1.2 ∧ Sep 0 W.heap.size A' ∧ Below W.heap.size W W'
theorem AR.fresh {W w6 : World} {r : Gm.Res} {A' : Option Addr} {c' : Nat} (lx : Below W.heap.size W w6) (hG : Gr w6 w6.heap.size A' r.1.2) (hs : Sep 0 W.heap.size A') : AR W r w6.heap.size A' c' (w6.alloc (Obj.cells #[.int .i64 r.1.1, .slice A' r.1.2.length c'] 26)) :=
  ⟨lx.size, Blk.new _ _ _, (hG.below ((Below.refl w6.heap.size w6).alloc (Nat.le_refl _) _) (Nat.le_refl _)).more (by simp), hs, lx.alloc lx.size _⟩
theorem AR.old {W w6 : World} {r : Gm.Res} {k : Nat} {A' : Option Addr} {c' : Nat} {u0 u1 : Value} (lx : Below W.heap.size W w6) (hk : W.heap.size ≤ k) (bk : Blk w6 k 26 #[u0, u1]) (hG : Gr w6 w6.heap.size A' r.1.2) (hs : Sep 0 W.heap.size A') (hne : ∀ ad, A' = some ad → ad.block ≠ k) :
    AR W r k A' c' ((w6.setCell ⟨k, 0, none⟩ (.int .i64 r.1.1)).setCell ⟨k, 1, none⟩ (.slice A' r.1.2.length c')) := by
  refine ⟨hk, ?_, ?_, hs, (lx.setCell hk _).setCell hk _⟩
  · have := (bk.put 0 (.int .i64 r.1.1)).put 1 (.slice A' r.1.2.length c')
    simpa using this
  · have := (hG.set (p := ⟨k, 0, none⟩) hne (.int .i64 r.1.1)).set (p := ⟨k, 1, none⟩) hne (.slice A' r.1.2.length c')
    simpa using this

attribute [local go_sem] Oper.semAt_some
set_option maxRecDepth 100000 in
set_option maxHeartbeats 8000000 in
theorem copied_any (nt : Nat) (At : Option Addr) (ct : Nat) (tg : List (Int × Int)) (nf : Nat) (Af : Option Addr) (cf : Nat) (fg : List (Int × Int)) (l : Int) (Ab : Option Addr) (cb : Nat) (by_ : List Int) (w : World)
    (hgt : Gr w w.heap.size At tg) (hgf : Gr w w.heap.size Af fg) (hV : Vs w w.heap.size Ab (iv by_)) (hwt : Wf tg) (hrt : Gm.rightB nt tg = true) (hrf : Gm.rightB nf fg = true) (hl : Gm.litB nf fg.length l = true) (hb : by_.length = nf) (hall : by_.all (Gm.litB nt tg.length) = true) :
    Calls Try.prog 31 #[.agg #[.int .i64 nt, .slice At tg.length ct], .agg #[.int .i64 nf, .slice Af fg.length cf], .int .i64 l, .slice Ab nf cb] w (AndPost (Cm.copyS nt tg nf fg l by_) 0 w) := by
  obtain ⟨hf0, hf1, hf2, _⟩ := right_facts hrf
  obtain ⟨ht0, ht1, ht2, _⟩ := right_facts hrt
  have hlf := lit_facts hl
  have hmk : ∀ w, (Instr.makeSlice 29 (.int .i64 (1 + (nf : Int) + (fg.length : Int))) (.int .i64 (1 + (nf : Int) + (fg.length : Int)))).run Try.prog w = .ok (.slice (some ⟨w.heap.size, 0, none⟩) (1 + (nf + fg.length)) (1 + (nf + fg.length))) (w.alloc (.cells (zeros (1 + (nf + fg.length))) 3)) := fun w => by
    have := make_ints (1 + (nf + fg.length)) (by omega) w
    rwa [show ((1 + (nf + fg.length) : Nat) : Int) = 1 + (nf : Int) + (fg.length : Int) by omega] at this
  have HG := Lib.hid (fun V hV => gates_any nf Af cf fg l V hV hrf hl)
  have HCL := Lib.hid (fun V (hV : Gr V V.heap.size At tg) => clone_any At ct tg V V.heap.size (by omega) hV (Nat.le_refl _))
  have HALL := Lib.hid hall
  have HRT := Lib.hid hrt
  have HRF := Lib.hid hrf
  have HLL := Lib.hid hl
  have HBY := Lib.hid hb
  have HOF := Lib.hid (Em.right_ord hrf)
  clear hall hrt hrf hl hb
  refine (callsIn_wide (n := 9)).1 (callsIn_of_wp_marks Try.func31 rfl trivial (wpIn_wide.2 ?_) rfl)
  simp only [Try.ntmps31, List.size_toArray, List.length_cons, List.length_nil, Nat.reduceAdd, Nat.reduceSub, Array.replicate_succ, Array.replicate_zero, List.push_toArray, List.append_toArray, List.nil_append, List.cons_append]
  go_upto_region 2 with fail
  clear hmk
  have q0 : Blk (((((((w.alloc (Obj.cells #[.int .i64 nt, .slice At tg.length ct] 26)).alloc (Obj.cells #[.int .i64 nf, .slice Af fg.length cf] 26)).alloc (Obj.cells #[.int .i64 0, .slice none 0 0] 26)).alloc (Obj.cells #[.int .i64 0] 3)).alloc (Obj.cells #[.int .i64 0] 41)).alloc (Obj.cells (zeros (1 + (nf + fg.length))) 3)).alloc (Obj.cells #[.slice (some ⟨w.heap.size + 1 + 1 + 1 + 1 + 1, 0, none⟩) (1 + (nf + fg.length)) (1 + (nf + fg.length))] 29)) (w.heap.size) 26 #[.int .i64 nt, .slice At tg.length ct] := by
    have := ((((((Blk.new w 26 #[.int .i64 nt, .slice At tg.length ct]).alloc (Obj.cells #[.int .i64 nf, .slice Af fg.length cf] 26)).alloc (Obj.cells #[.int .i64 0, .slice none 0 0] 26)).alloc (Obj.cells #[.int .i64 0] 3)).alloc (Obj.cells #[.int .i64 0] 41)).alloc (Obj.cells (zeros (1 + (nf + fg.length))) 3)).alloc (Obj.cells #[.slice (some ⟨w.heap.size + 1 + 1 + 1 + 1 + 1, 0, none⟩) (1 + (nf + fg.length)) (1 + (nf + fg.length))] 29)
    simpa using this
  have q1 : Blk (((((((w.alloc (Obj.cells #[.int .i64 nt, .slice At tg.length ct] 26)).alloc (Obj.cells #[.int .i64 nf, .slice Af fg.length cf] 26)).alloc (Obj.cells #[.int .i64 0, .slice none 0 0] 26)).alloc (Obj.cells #[.int .i64 0] 3)).alloc (Obj.cells #[.int .i64 0] 41)).alloc (Obj.cells (zeros (1 + (nf + fg.length))) 3)).alloc (Obj.cells #[.slice (some ⟨w.heap.size + 1 + 1 + 1 + 1 + 1, 0, none⟩) (1 + (nf + fg.length)) (1 + (nf + fg.length))] 29)) (w.heap.size + 1) 26 #[.int .i64 nf, .slice Af fg.length cf] := by
    have := (((((Blk.new (w.alloc (Obj.cells #[.int .i64 nt, .slice At tg.length ct] 26)) 26 #[.int .i64 nf, .slice Af fg.length cf]).alloc (Obj.cells #[.int .i64 0, .slice none 0 0] 26)).alloc (Obj.cells #[.int .i64 0] 3)).alloc (Obj.cells #[.int .i64 0] 41)).alloc (Obj.cells (zeros (1 + (nf + fg.length))) 3)).alloc (Obj.cells #[.slice (some ⟨w.heap.size + 1 + 1 + 1 + 1 + 1, 0, none⟩) (1 + (nf + fg.length)) (1 + (nf + fg.length))] 29)
    simpa using this
  have q2 : Blk (((((((w.alloc (Obj.cells #[.int .i64 nt, .slice At tg.length ct] 26)).alloc (Obj.cells #[.int .i64 nf, .slice Af fg.length cf] 26)).alloc (Obj.cells #[.int .i64 0, .slice none 0 0] 26)).alloc (Obj.cells #[.int .i64 0] 3)).alloc (Obj.cells #[.int .i64 0] 41)).alloc (Obj.cells (zeros (1 + (nf + fg.length))) 3)).alloc (Obj.cells #[.slice (some ⟨w.heap.size + 1 + 1 + 1 + 1 + 1, 0, none⟩) (1 + (nf + fg.length)) (1 + (nf + fg.length))] 29)) (w.heap.size + 1 + 1) 26 #[.int .i64 0, .slice none 0 0] := by
    have := ((((Blk.new ((w.alloc (Obj.cells #[.int .i64 nt, .slice At tg.length ct] 26)).alloc (Obj.cells #[.int .i64 nf, .slice Af fg.length cf] 26)) 26 #[.int .i64 0, .slice none 0 0]).alloc (Obj.cells #[.int .i64 0] 3)).alloc (Obj.cells #[.int .i64 0] 41)).alloc (Obj.cells (zeros (1 + (nf + fg.length))) 3)).alloc (Obj.cells #[.slice (some ⟨w.heap.size + 1 + 1 + 1 + 1 + 1, 0, none⟩) (1 + (nf + fg.length)) (1 + (nf + fg.length))] 29)
    simpa using this
  have q3 : Blk (((((((w.alloc (Obj.cells #[.int .i64 nt, .slice At tg.length ct] 26)).alloc (Obj.cells #[.int .i64 nf, .slice Af fg.length cf] 26)).alloc (Obj.cells #[.int .i64 0, .slice none 0 0] 26)).alloc (Obj.cells #[.int .i64 0] 3)).alloc (Obj.cells #[.int .i64 0] 41)).alloc (Obj.cells (zeros (1 + (nf + fg.length))) 3)).alloc (Obj.cells #[.slice (some ⟨w.heap.size + 1 + 1 + 1 + 1 + 1, 0, none⟩) (1 + (nf + fg.length)) (1 + (nf + fg.length))] 29)) (w.heap.size + 1 + 1 + 1) 3 #[.int .i64 0] := by
    have := (((Blk.new (((w.alloc (Obj.cells #[.int .i64 nt, .slice At tg.length ct] 26)).alloc (Obj.cells #[.int .i64 nf, .slice Af fg.length cf] 26)).alloc (Obj.cells #[.int .i64 0, .slice none 0 0] 26)) 3 #[.int .i64 0]).alloc (Obj.cells #[.int .i64 0] 41)).alloc (Obj.cells (zeros (1 + (nf + fg.length))) 3)).alloc (Obj.cells #[.slice (some ⟨w.heap.size + 1 + 1 + 1 + 1 + 1, 0, none⟩) (1 + (nf + fg.length)) (1 + (nf + fg.length))] 29)
    simpa using this
  have q4 : Blk (((((((w.alloc (Obj.cells #[.int .i64 nt, .slice At tg.length ct] 26)).alloc (Obj.cells #[.int .i64 nf, .slice Af fg.length cf] 26)).alloc (Obj.cells #[.int .i64 0, .slice none 0 0] 26)).alloc (Obj.cells #[.int .i64 0] 3)).alloc (Obj.cells #[.int .i64 0] 41)).alloc (Obj.cells (zeros (1 + (nf + fg.length))) 3)).alloc (Obj.cells #[.slice (some ⟨w.heap.size + 1 + 1 + 1 + 1 + 1, 0, none⟩) (1 + (nf + fg.length)) (1 + (nf + fg.length))] 29)) (w.heap.size + 1 + 1 + 1 + 1) 41 #[.int .i64 0] := by
    have := ((Blk.new ((((w.alloc (Obj.cells #[.int .i64 nt, .slice At tg.length ct] 26)).alloc (Obj.cells #[.int .i64 nf, .slice Af fg.length cf] 26)).alloc (Obj.cells #[.int .i64 0, .slice none 0 0] 26)).alloc (Obj.cells #[.int .i64 0] 3)) 41 #[.int .i64 0]).alloc (Obj.cells (zeros (1 + (nf + fg.length))) 3)).alloc (Obj.cells #[.slice (some ⟨w.heap.size + 1 + 1 + 1 + 1 + 1, 0, none⟩) (1 + (nf + fg.length)) (1 + (nf + fg.length))] 29)
    simpa using this
  have q5 : Blk (((((((w.alloc (Obj.cells #[.int .i64 nt, .slice At tg.length ct] 26)).alloc (Obj.cells #[.int .i64 nf, .slice Af fg.length cf] 26)).alloc (Obj.cells #[.int .i64 0, .slice none 0 0] 26)).alloc (Obj.cells #[.int .i64 0] 3)).alloc (Obj.cells #[.int .i64 0] 41)).alloc (Obj.cells (zeros (1 + (nf + fg.length))) 3)).alloc (Obj.cells #[.slice (some ⟨w.heap.size + 1 + 1 + 1 + 1 + 1, 0, none⟩) (1 + (nf + fg.length)) (1 + (nf + fg.length))] 29)) (w.heap.size + 1 + 1 + 1 + 1 + 1) 3 (zeros (1 + (nf + fg.length))) := by
    have := (Blk.new (((((w.alloc (Obj.cells #[.int .i64 nt, .slice At tg.length ct] 26)).alloc (Obj.cells #[.int .i64 nf, .slice Af fg.length cf] 26)).alloc (Obj.cells #[.int .i64 0, .slice none 0 0] 26)).alloc (Obj.cells #[.int .i64 0] 3)).alloc (Obj.cells #[.int .i64 0] 41)) 3 (zeros (1 + (nf + fg.length)))).alloc (Obj.cells #[.slice (some ⟨w.heap.size + 1 + 1 + 1 + 1 + 1, 0, none⟩) (1 + (nf + fg.length)) (1 + (nf + fg.length))] 29)
    simpa using this
  have q6 : Blk (((((((w.alloc (Obj.cells #[.int .i64 nt, .slice At tg.length ct] 26)).alloc (Obj.cells #[.int .i64 nf, .slice Af fg.length cf] 26)).alloc (Obj.cells #[.int .i64 0, .slice none 0 0] 26)).alloc (Obj.cells #[.int .i64 0] 3)).alloc (Obj.cells #[.int .i64 0] 41)).alloc (Obj.cells (zeros (1 + (nf + fg.length))) 3)).alloc (Obj.cells #[.slice (some ⟨w.heap.size + 1 + 1 + 1 + 1 + 1, 0, none⟩) (1 + (nf + fg.length)) (1 + (nf + fg.length))] 29)) (w.heap.size + 1 + 1 + 1 + 1 + 1 + 1) 29 #[.slice (some ⟨w.heap.size + 1 + 1 + 1 + 1 + 1, 0, none⟩) (1 + (nf + fg.length)) (1 + (nf + fg.length))] := by
    have := Blk.new ((((((w.alloc (Obj.cells #[.int .i64 nt, .slice At tg.length ct] 26)).alloc (Obj.cells #[.int .i64 nf, .slice Af fg.length cf] 26)).alloc (Obj.cells #[.int .i64 0, .slice none 0 0] 26)).alloc (Obj.cells #[.int .i64 0] 3)).alloc (Obj.cells #[.int .i64 0] 41)).alloc (Obj.cells (zeros (1 + (nf + fg.length))) 3)) 29 #[.slice (some ⟨w.heap.size + 1 + 1 + 1 + 1 + 1, 0, none⟩) (1 + (nf + fg.length)) (1 + (nf + fg.length))]
    simpa using this
  have lo : Below w.heap.size w (((((((w.alloc (Obj.cells #[.int .i64 nt, .slice At tg.length ct] 26)).alloc (Obj.cells #[.int .i64 nf, .slice Af fg.length cf] 26)).alloc (Obj.cells #[.int .i64 0, .slice none 0 0] 26)).alloc (Obj.cells #[.int .i64 0] 3)).alloc (Obj.cells #[.int .i64 0] 41)).alloc (Obj.cells (zeros (1 + (nf + fg.length))) 3)).alloc (Obj.cells #[.slice (some ⟨w.heap.size + 1 + 1 + 1 + 1 + 1, 0, none⟩) (1 + (nf + fg.length)) (1 + (nf + fg.length))] 29)) := (((((((Below.refl _ _).alloc (by simp) _).alloc (by simp) _).alloc (by simp; omega) _).alloc (by simp; omega) _).alloc (by simp; omega) _).alloc (by simp; omega) _).alloc (by simp; omega) _
  have hsz : (((((((w.alloc (Obj.cells #[.int .i64 nt, .slice At tg.length ct] 26)).alloc (Obj.cells #[.int .i64 nf, .slice Af fg.length cf] 26)).alloc (Obj.cells #[.int .i64 0, .slice none 0 0] 26)).alloc (Obj.cells #[.int .i64 0] 3)).alloc (Obj.cells #[.int .i64 0] 41)).alloc (Obj.cells (zeros (1 + (nf + fg.length))) 3)).alloc (Obj.cells #[.slice (some ⟨w.heap.size + 1 + 1 + 1 + 1 + 1, 0, none⟩) (1 + (nf + fg.length)) (1 + (nf + fg.length))] 29)).heap.size = w.heap.size + 1 + 1 + 1 + 1 + 1 + 1 + 1 := by simp
  generalize ((((((w.alloc (Obj.cells #[.int .i64 nt, .slice At tg.length ct] 26)).alloc (Obj.cells #[.int .i64 nf, .slice Af fg.length cf] 26)).alloc (Obj.cells #[.int .i64 0, .slice none 0 0] 26)).alloc (Obj.cells #[.int .i64 0] 3)).alloc (Obj.cells #[.int .i64 0] 41)).alloc (Obj.cells (zeros (1 + (nf + fg.length))) 3)).alloc (Obj.cells #[.slice (some ⟨w.heap.size + 1 + 1 + 1 + 1 + 1, 0, none⟩) (1 + (nf + fg.length)) (1 + (nf + fg.length))] 29) = V at *
  rw [zeros_cons] at q5
  have c6 := q6.cell 0
  simp only [List.getElem?_toArray, List.getElem?_cons_zero] at c6
  have hVV := hV.below lo (Nat.le_refl _)
  have HK := Lib.hid (show V.heap[w.heap.size + 1 + 1 + 1 + 1 + 1]? = some (.cells (Value.int .i64 0 :: List.replicate (nf + fg.length) (.int .i64 0)).toArray 3 (0, 0)) from q5)
  have HP := Lib.hid (fun h => hVV.src h)
  have HN := Lib.hid (show (iv by_).length = Nat.min nf (nf + fg.length) by rw [List.length_map, HBY.out]; exact (Nat.min_eq_left (Nat.le_add_right _ _)).symm)
  have HF := Lib.hid (show 1 + (iv by_).length ≤ (Value.int .i64 0 :: List.replicate (nf + fg.length) (.int .i64 0)).length by rw [List.length_map, HBY.out]; simp; omega)
  have H1 := Lib.hid (iv_one by_)
  have HSP : Hid (splice (Value.int .i64 0 :: List.replicate (nf + fg.length) (.int .i64 0)) 1 (iv by_) = iv (Cm.img0 by_ fg.length)) := by
    unfold Hid
    rw [← HBY.out]
    exact img_splice by_ fg.length
  clear hVV
  go_cut [] from 26 to 29 (fun wx => Hid (Blk wx (w.heap.size + 1 + 1 + 1 + 1 + 1) 3 (iv (Cm.img0 by_ fg.length)).toArray) ∧ V.grownBy wx (some (w.heap.size + 1 + 1 + 1 + 1 + 1)) ∧ Hid (wx.heap.size = V.heap.size))
  case first =>
    clear HG HCL HALL HRT HRF HLL HOF hlf hgf hgt hV q0 q1 q2 q3 q4 q6 HBY
    generalize fg.length = m at *
    by_cases hz : nf = 0 ∧ m = 0
    · obtain ⟨rfl, rfl⟩ := hz
      have hby : by_ = [] := by
        have := HN.out
        simpa using this
      subst hby
      go_wp2_with (with_reducible refine wpList_copy_nothing rfl (.tmp 27) (.tmp 28) 29 29 rfl 3 Try.underlying29 (by kernel_rfl) _ _ _ _ _ _ rfl rfl rfl ?_)
      go_meet
      case rel => exact ⟨by unfold Hid; rw [← HSP.out]; simpa [splice] using q5, World.grownBy.refl _ _, rfl⟩
    · go_wp2_with (with_reducible refine wpList_copy_grown rfl (.tmp 27) (.tmp 28) 29 29 rfl 3 Try.underlying29 (by kernel_rfl) _ _ _ _ _ _ rfl rfl (w.heap.size + 1 + 1 + 1 + 1 + 1) 1 (Value.int .i64 0 :: List.replicate (nf + m) (.int .i64 0)) 3 HK.out (iv by_) HN.out (fun h => ⟨rfl, HP.out h⟩) HF.out H1.out ?_; intro w4 hb4 hg4 hs4)
      go_meet
      case rel => exact ⟨by rw [← HSP.out]; exact hb4, hg4, hs4⟩
  case rest =>
    obtain ⟨HB5, hgr, HS5⟩ := hcut
    have hs5 := HS5.out
    rw [hsz] at hs5
    have lo5 : Below w.heap.size w wc := lo.trans (grown_low hgr (by omega) (by omega))
    replace q0 := q0.grown hgr (fun e => by injection e with e; omega)
    replace q1 := q1.grown hgr (fun e => by injection e with e; omega)
    replace q2 := q2.grown hgr (fun e => by injection e with e; omega)
    replace q3 := q3.grown hgr (fun e => by injection e with e; omega)
    replace q4 := q4.grown hgr (fun e => by injection e with e; omega)
    replace q6 := q6.grown hgr (fun e => by injection e with e; omega)
    have q5' := HB5.out
    have HSZ := Lib.hid hs5
    clear hgr HS5 HB5 HSP H1 HF HN HP HK c6 q5 lo hsz hV hs5
    go_upto_region 4 with fail
    have hs5 := HSZ.out
    simp only [hs5]
    have bf : Blk (wc.alloc (Obj.cells #[.func (.func 39) #[] #[.pointer (some ⟨w.heap.size + 1 + 1 + 1 + 1 + 1 + 1, 0, none⟩)]] 60)) (w.heap.size + 1 + 1 + 1 + 1 + 1 + 1 + 1) 60 #[.func (.func 39) #[] #[.pointer (some ⟨w.heap.size + 1 + 1 + 1 + 1 + 1 + 1, 0, none⟩)]] := by
      have := Blk.new wc 60 #[.func (.func 39) #[] #[.pointer (some ⟨w.heap.size + 1 + 1 + 1 + 1 + 1 + 1, 0, none⟩)]]
      rwa [hs5] at this
    replace q0 := q0.alloc (Obj.cells #[.func (.func 39) #[] #[.pointer (some ⟨w.heap.size + 1 + 1 + 1 + 1 + 1 + 1, 0, none⟩)]] 60)
    replace q1 := q1.alloc (Obj.cells #[.func (.func 39) #[] #[.pointer (some ⟨w.heap.size + 1 + 1 + 1 + 1 + 1 + 1, 0, none⟩)]] 60)
    replace q2 := q2.alloc (Obj.cells #[.func (.func 39) #[] #[.pointer (some ⟨w.heap.size + 1 + 1 + 1 + 1 + 1 + 1, 0, none⟩)]] 60)
    replace q3 := q3.alloc (Obj.cells #[.func (.func 39) #[] #[.pointer (some ⟨w.heap.size + 1 + 1 + 1 + 1 + 1 + 1, 0, none⟩)]] 60)
    replace q4 := q4.alloc (Obj.cells #[.func (.func 39) #[] #[.pointer (some ⟨w.heap.size + 1 + 1 + 1 + 1 + 1 + 1, 0, none⟩)]] 60)
    replace q5' := q5'.alloc (Obj.cells #[.func (.func 39) #[] #[.pointer (some ⟨w.heap.size + 1 + 1 + 1 + 1 + 1 + 1, 0, none⟩)]] 60)
    replace q6 := q6.alloc (Obj.cells #[.func (.func 39) #[] #[.pointer (some ⟨w.heap.size + 1 + 1 + 1 + 1 + 1 + 1, 0, none⟩)]] 60)
    replace lo5 := lo5.alloc lo5.size (Obj.cells #[.func (.func 39) #[] #[.pointer (some ⟨w.heap.size + 1 + 1 + 1 + 1 + 1 + 1, 0, none⟩)]] 60)
    have hs6 : (wc.alloc (Obj.cells #[.func (.func 39) #[] #[.pointer (some ⟨w.heap.size + 1 + 1 + 1 + 1 + 1 + 1, 0, none⟩)]] 60)).heap.size = w.heap.size + 1 + 1 + 1 + 1 + 1 + 1 + 1 + 1 := by simp [hs5]
    clear hs5
    generalize wc.alloc (Obj.cells #[.func (.func 39) #[] #[.pointer (some ⟨w.heap.size + 1 + 1 + 1 + 1 + 1 + 1, 0, none⟩)]] 60) = V6 at *
    have k1 := q0.cell 1
    simp only [List.getElem?_toArray, List.getElem?_cons_zero, List.getElem?_cons_succ] at k1
    go_wp2_with fail
    refine (HCL.out _ ((hgt.below lo5 (Nat.le_refl _)).more lo5.size)).mono ?_
    rintro e w7 ⟨A7, c7, rfl, hG7, hsep7, hb7⟩
    have C7 : CI w (w7.setCell ⟨w.heap.size, 1, none⟩ (.slice A7 tg.length c7)) nt A7 c7 tg (1 + (nf + fg.length)) (Cm.img0 by_ fg.length) := by
      have hsp : Sep 0 (w.heap.size + 8) A7 := hsep7.mono (Nat.le_refl _) (by omega)
      refine ⟨(lo5.trans (hb7.mono lo5.size)).setCell (by simp) _, ?_, ?_, hsp, ?_, ?_, ?_, ?_, ?_, ?_⟩
      · have := (q0.below hb7 q0.lt).put 1 (.slice A7 tg.length c7)
        simpa using this
      · have := hG7.set (p := ⟨w.heap.size, 1, none⟩) (hsp.ne (k := w.heap.size) (Nat.zero_le _) (by omega)) (.slice A7 tg.length c7)
        simpa using this
      · exact (q2.below hb7 q2.lt).far (by simp; omega) _
      · exact (q3.below hb7 q3.lt).far (by simp; omega) _
      · exact (q4.below hb7 q4.lt).far (by simp; omega) _
      · exact (q5'.below hb7 q5'.lt).far (by simp; omega) _
      · exact (q6.below hb7 q6.lt).far (by simp; omega) _
      · exact (bf.below hb7 bf.lt).far (by simp; omega) _
    have b1 : Blk (w7.setCell ⟨w.heap.size, 1, none⟩ (.slice A7 tg.length c7)) (w.heap.size + 1) 26 #[.int .i64 nf, .slice Af fg.length cf] := (q1.below hb7 q1.lt).far (by simp) _
    have k71 := (q0.below hb7 q0.lt).cell 1
    have f71 := (q0.below hb7 q0.lt).frozen 1
    have hs7 : w.heap.size + 1 + 1 + 1 + 1 + 1 + 1 + 1 + 1 ≤ (w7.setCell ⟨w.heap.size, 1, none⟩ (.slice A7 tg.length c7)).heap.size := by have := hb7.size; simp; omega
    simp only [List.getElem?_toArray, List.getElem?_cons_zero, List.getElem?_cons_succ] at k71
    go_upto_region 5 with fail
    clear k71 f71 hG7 hsep7 hb7 q0 q1 q2 q3 q4 q5' q6 bf k1 HCL hs6 lo5
    generalize w7.setCell ⟨w.heap.size, 1, none⟩ (.slice A7 tg.length c7) = W7 at *
    have k0 := b1.cell 0
    have k1 := b1.cell 1
    simp only [List.getElem?_toArray, List.getElem?_cons_zero, List.getElem?_cons_succ] at k0 k1
    go_wp2_with (go_at_call 27; refine (HG.out _ ((hgf.below C7.low (Nat.le_refl _)).more C7.low.size)).mono ?_; rintro e w8 ⟨mx, mb, rfl, hmx, hmb, hgi, hb8⟩)
    replace C7 := C7.below hb8
    clear k0 k1 b1 HG
    have hs8 : W7.heap.size ≤ w8.heap.size := hb8.size
    have hgl := hgi.bg.lt
    have h1l := hgi.bx.lt
    have h2l := hgi.bf.lt
    have h3l := hgi.bm.lt
    clear hb8
    refine wp_rangeFunc (gf := 38) (lb := #[.pointer (some ⟨W7.heap.size, 0, none⟩), .pointer (some ⟨mx, 0, none⟩), .pointer (some ⟨W7.heap.size + 1, 0, none⟩)]) (encs := gateV fg (1 + nf)) (K := fun b => b < w8.heap.size ∧ b ≠ w.heap.size ∧ b ≠ w.heap.size + 1 + 1 ∧ b ≠ w.heap.size + 1 + 1 + 1 ∧ b ≠ w.heap.size + 1 + 1 + 1 + 1 ∧ b ≠ w.heap.size + 1 + 1 + 1 + 1 + 1) rfl (enters_of Try.func38 (by kernel_rfl) rfl)
      (gates_stops 8 W7.heap.size mx (W7.heap.size + 1) mb w.heap.size nf Af cf fg l _ (by omega) (by omega) (by omega) (by omega) (by omega) (by omega) (fun b h => by omega) w8 (by omega) (fun b h => h.1) hgi (hgf.below C7.low (Nat.le_refl _)))
      (fun b h => h.1) (Below.refl _ _) (fun _ => rfl)
      (fun pre W => CL w W nt nf tg fg by_ pre ∧ w8.heap.size ≤ W.heap.size) (fun c pre W => CX w W nt nf tg fg by_ c pre)
      (fun s X Y row hs hg hr => ?hI) (fun c s X Y row hs hg hr => ?hIx) ?h0
      (fun x a' W => ∃ Bx, w8.heap.size ≤ Bx ∧ Blk W Bx 44 #[.int .i64 (fg[x.1]).1, .int .i64 (fg[x.1]).2] ∧ a' = { tmps := #[.agg #[.int .i64 nt, .slice At tg.length ct], .agg #[.int .i64 nf, .slice Af fg.length cf], .int .i64 l, .slice Ab nf cb, .pointer (some ⟨w.heap.size, 0, none⟩), .pointer (some ⟨w.heap.size + 1, 0, none⟩), undef, undef, .pointer (some ⟨w.heap.size + 1 + 1, 0, none⟩), .pointer (some ⟨w.heap.size + 1 + 1 + 1, 0, none⟩), .pointer (some ⟨w.heap.size + 1 + 1 + 1 + 1, 0, none⟩), .pointer (some ⟨w.heap.size + 1 + 1 + 1 + 1 + 1 + 1, 0, none⟩), .pointer (some ⟨w.heap.size + 1 + 1 + 1 + 1 + 1 + 1 + 1, 0, none⟩), .int .i64 ((1 + (nf : Int)) + (x.1 : Int)), .pointer (some ⟨Bx, 0, none⟩), undef, undef, undef, .pointer (some ⟨w.heap.size + 1, 0, none⟩), .int .i64 nf, .int .i64 (1 + nf), .pointer (some ⟨w.heap.size + 1, 1, none⟩), .slice Af fg.length cf, .int .i64 fg.length, .int .i64 (1 + nf + fg.length), .slice (some ⟨w.heap.size + 1 + 1 + 1 + 1 + 1, 0, none⟩) (1 + (nf + fg.length)) (1 + (nf + fg.length)), u26, u27, u28, u29, .func (.func 39) #[] #[.pointer (some ⟨w.heap.size + 1 + 1 + 1 + 1 + 1 + 1, 0, none⟩)], .pointer (some ⟨w.heap.size, 1, none⟩), .slice At tg.length ct, .slice A7 tg.length c7, .pointer (some ⟨w.heap.size, 1, none⟩), .agg #[.int .i64 nf, .slice Af fg.length cf], .int .i64 l, .func (.func 38) #[] #[.pointer (some ⟨W7.heap.size, 0, none⟩), .pointer (some ⟨mx, 0, none⟩), .pointer (some ⟨W7.heap.size + 1, 0, none⟩)], .int .i64 ((1 + (nf : Int)) + (x.1 : Int)), .agg #[.int .i64 (fg[x.1]).1, .int .i64 (fg[x.1]).2], undef, undef, undef, undef, undef, undef, undef, undef, undef, undef, undef, undef, undef, undef, undef, undef, undef, undef, undef, undef, undef, undef, undef, undef, undef, undef, undef], defers := [] })
      (fun x a' _ X Y row hs hg hr => by obtain ⟨Bx, e1, e2, e3⟩ := hs; exact ⟨Bx, e1, e2.own hg hr, e3⟩)
      ?assign ?body ?done ?stop
    case hI =>
      obtain ⟨⟨A, c, t, is, e1, e2, e3⟩, e4⟩ := hs
      exact ⟨⟨A, c, t, is, e1, e2.own (by omega) hg hr, e3⟩, Nat.le_trans e4 hg.size⟩
    case hIx =>
      obtain ⟨e0, er, e1, e2, e3, e4, e5⟩ := hs
      exact ⟨e0, er, e1, e2.own hg hr, e3.own hg hr, e4.own hg hr, below_own e5 (Nat.le_refl _) (by omega) hg hr⟩
    case h0 =>
      refine ⟨⟨A7, c7, tg, Cm.img0 by_ fg.length, rfl, C7, by simp, by have := HBY.out; simp [Cm.img0]; omega, Cm.Sm.img0 (fun x hx => ?_) _, hwt⟩, Nat.le_refl _⟩
      have := lit_facts (List.all_eq_true.1 HALL.out x hx)
      omega
    case assign =>
      rintro l' pre x W K' ⟨⟨A, c, t, is, e1, e2, e3⟩, hsW⟩ hK'
      simp only [gateV]
      gi_wp2
      exact hK' _ _ ((KeepsOthers.alloc _ _).from _) (KS.of_below (B := W.heap.size) (fun b h => by omega) ((Below.refl _ W).alloc (Nat.le_refl _) _)) ⟨⟨A, c, t, is, e1, e2.alloc _, e3⟩, by simp; omega⟩ ⟨W.heap.size, hsW, Blk.new W _ _, rfl⟩
    case body =>
      rintro l' pre ⟨i, hi⟩ a' W ⟨⟨A, c, t, is, hfold, C, htl, hil, hsm, hwf⟩, hsW⟩ ⟨Bx, hBx, bX, rfl⟩ hlt
      have HF := Lib.hid (Cm.foldF_snoc nt nf fg (tg, Cm.img0 by_ fg.length) pre ⟨i, hi⟩)
      have HFO := Lib.hid hfold
      clear hfold
      have hlow := Em.gate_low HOF.out hi
      have HGT : Hid (fg.getD i (0, 0) = fg[i]) := Cm.gate_at hi
      have HPL := Lib.hid (show (pre ++ [(⟨i, hi⟩ : Fin fg.length)]).length = pre.length + 1 by simp)
      dsimp only at bX ⊢
      generalize pre ++ [(⟨i, hi⟩ : Fin fg.length)] = pre2 at *
      generalize fg[i] = g at *
      obtain ⟨x, y⟩ := g
      simp only at hlow bX
      have k0 := C.bt.cell 0
      have k1 := C.bt.cell 1
      have k7 := C.bf.cell 0
      have x0 := bX.cell 0
      have x1 := bX.cell 1
      have k6 := C.bx.cell 0
      simp only [List.getElem?_toArray, List.getElem?_cons_zero, List.getElem?_cons_succ] at k0 k1 k7 x0 x1 k6
      have l0 := C.bt.lt
      have l7 := C.bf.lt
      have l6 := C.bx.lt
      have l5 := C.bi.lt
      have lb := bX.lt
      have HIM1 : Hid (∀ V, Below W.heap.size W V → Calls Try.prog 39 #[.int .i64 x, .pointer (some ⟨w.heap.size + 1 + 1 + 1 + 1 + 1 + 1, 0, none⟩)] V fun e w' => e = .returned (.int .i64 (Cm.isL is x)) ∧ ∃ m, w' = V.drewN m) := fun V lx => image_any (w.heap.size + 1 + 1 + 1 + 1 + 1 + 1) (w.heap.size + 1 + 1 + 1 + 1 + 1) (1 + (nf + fg.length)) is x V ((lx.cell (p := ⟨w.heap.size + 1 + 1 + 1 + 1 + 1 + 1, 0, none⟩) l6).trans k6) (C.bi.below lx l5) hil (by omega) (by omega) (by unfold Cm.vr; omega) hsm
      have HIM2 : Hid (∀ V, Below W.heap.size W V → Calls Try.prog 39 #[.int .i64 y, .pointer (some ⟨w.heap.size + 1 + 1 + 1 + 1 + 1 + 1, 0, none⟩)] V fun e w' => e = .returned (.int .i64 (Cm.isL is y)) ∧ ∃ m, w' = V.drewN m) := fun V lx => image_any (w.heap.size + 1 + 1 + 1 + 1 + 1 + 1) (w.heap.size + 1 + 1 + 1 + 1 + 1) (1 + (nf + fg.length)) is y V ((lx.cell (p := ⟨w.heap.size + 1 + 1 + 1 + 1 + 1 + 1, 0, none⟩) l6).trans k6) (C.bi.below lx l5) hil (by omega) (by omega) (by unfold Cm.vr; omega) hsm
      have HST : Hid (Cm.stepF nt nf fg i (t, is) = if (Gm.andS nt t (Cm.isL is x) (Cm.isL is y)).2.2 = 0 then .ok ((Gm.andS nt t (Cm.isL is x) (Cm.isL is y)).1.2, is.set (nf + 1 + i) (Gm.andS nt t (Cm.isL is x) (Cm.isL is y)).2.1) else .error (Gm.andS nt t (Cm.isL is x) (Cm.isL is y)).2.2) := by
        unfold Hid Cm.stepF
        rw [HGT.out]
      generalize Cm.isL is x = z1 at *
      generalize Cm.isL is y = z2 at *
      have HAND : Hid (∀ V, Below W.heap.size W V → Calls Try.prog 41 #[.agg #[.int .i64 nt, .slice A t.length c], .int .i64 z1, .int .i64 z2] V (AndPost (Gm.andS nt t z1 z2) 0 V)) := fun V lx => and_any nt A c t z1 z2 V W.heap.size (by omega) (C.gr.below lx (Nat.le_refl _)) lx.size hwf
      have hfx := and_facts nt t z1 z2 hwf
      have hins := and_ins nt t z1 z2
      generalize Gm.andS nt t z1 z2 = r at *
      have lx : Below W.heap.size W W.drew := (Below.refl _ W).drew
      gi_wp2
      refine round_region (S := fun V => V.cell? ⟨w.heap.size, 0, none⟩ = some (.int .i64 nt) ∧ V.cell? ⟨w.heap.size, 1, none⟩ = some (.slice A t.length c) ∧ V.cell? ⟨w.heap.size + 1 + 1 + 1 + 1 + 1 + 1 + 1, 0, none⟩ = some (.func (.func 39) #[] #[.pointer (some ⟨w.heap.size + 1 + 1 + 1 + 1 + 1 + 1, 0, none⟩)]) ∧ V.cell? ⟨Bx, 0, none⟩ = some (.int .i64 x) ∧ V.cell? ⟨Bx, 1, none⟩ = some (.int .i64 y)) (fun a' W' => ∃ k A' c', a' = { tmps := #[.agg #[.int .i64 nt, .slice At tg.length ct], .agg #[.int .i64 nf, .slice Af fg.length cf], .int .i64 l, .slice Ab nf cb, .pointer (some ⟨w.heap.size, 0, none⟩), .pointer (some ⟨w.heap.size + 1, 0, none⟩), undef, undef, .pointer (some ⟨w.heap.size + 1 + 1, 0, none⟩), .pointer (some ⟨w.heap.size + 1 + 1 + 1, 0, none⟩), .pointer (some ⟨w.heap.size + 1 + 1 + 1 + 1, 0, none⟩), .pointer (some ⟨w.heap.size + 1 + 1 + 1 + 1 + 1 + 1, 0, none⟩), .pointer (some ⟨w.heap.size + 1 + 1 + 1 + 1 + 1 + 1 + 1, 0, none⟩), .int .i64 ((1 + (nf : Int)) + (i : Int)), .pointer (some ⟨Bx, 0, none⟩), .pointer (some ⟨k, 0, none⟩), .int .i64 r.2.1, .int .i64 r.2.2, .pointer (some ⟨w.heap.size + 1, 0, none⟩), .int .i64 nf, .int .i64 (1 + nf), .pointer (some ⟨w.heap.size + 1, 1, none⟩), .slice Af fg.length cf, .int .i64 fg.length, .int .i64 (1 + nf + fg.length), .slice (some ⟨w.heap.size + 1 + 1 + 1 + 1 + 1, 0, none⟩) (1 + (nf + fg.length)) (1 + (nf + fg.length)), u26, u27, u28, u29, .func (.func 39) #[] #[.pointer (some ⟨w.heap.size + 1 + 1 + 1 + 1 + 1 + 1, 0, none⟩)], .pointer (some ⟨w.heap.size, 1, none⟩), .slice At tg.length ct, .slice A7 tg.length c7, .pointer (some ⟨w.heap.size, 1, none⟩), .agg #[.int .i64 nf, .slice Af fg.length cf], .int .i64 l, .func (.func 38) #[] #[.pointer (some ⟨W7.heap.size, 0, none⟩), .pointer (some ⟨mx, 0, none⟩), .pointer (some ⟨W7.heap.size + 1, 0, none⟩)], .int .i64 ((1 + (nf : Int)) + (i : Int)), .agg #[.int .i64 x, .int .i64 y], .tuple #[.agg #[.int .i64 r.1.1, .slice A' r.1.2.length c'], .int .i64 r.2.1, .int .i64 r.2.2], .agg #[.int .i64 nt, .slice A t.length c], .func (.func 39) #[] #[.pointer (some ⟨w.heap.size + 1 + 1 + 1 + 1 + 1 + 1, 0, none⟩)], .pointer (some ⟨Bx, 0, none⟩), .int .i64 x, .int .i64 z1, .func (.func 39) #[] #[.pointer (some ⟨w.heap.size + 1 + 1 + 1 + 1 + 1 + 1, 0, none⟩)], .pointer (some ⟨Bx, 1, none⟩), .int .i64 y, .int .i64 z2, .tuple #[.agg #[.int .i64 r.1.1, .slice A' r.1.2.length c'], .int .i64 r.2.1, .int .i64 r.2.2], .agg #[.int .i64 r.1.1, .slice A' r.1.2.length c'], .int .i64 r.2.1, .int .i64 r.2.2, undef, undef, undef, undef, undef, undef, undef, undef, undef, undef, undef, undef, undef], defers := [] } ∧ AR W r k A' c' W') (by kernel_rfl) (by kernel_rfl) ?hS8 (fun hHeld => ?h8) ?hR8
      case hS8 => exact ⟨(lx.cell (p := ⟨w.heap.size, 0, none⟩) l0).trans k0, (lx.cell (p := ⟨w.heap.size, 1, none⟩) l0).trans k1, (lx.cell (p := ⟨w.heap.size + 1 + 1 + 1 + 1 + 1 + 1 + 1, 0, none⟩) l7).trans k7, (lx.cell (p := ⟨Bx, 0, none⟩) lb).trans x0, (lx.cell (p := ⟨Bx, 1, none⟩) lb).trans x1⟩
      case h8 =>
        refine wpAnyH_take (i := 0) (oi := ⟨some 41, _, _, _, _, _⟩) (v := ?_) rfl (by kernel_rfl) (by kernel_rfl) (by kernel_rfl) (fun _ _ _ h => h) (Or.inl ⟨by rfl, ?_⟩) hHeld ?_
        rotate_left
        · intro w hSw
          (try dsimp only at hSw)
          first | (go_simp; done) | (go_simp; with_reducible rfl) | with_reducible rfl
        try simp only [Act.put, List.setIfInBounds_toArray, List.set_cons_zero, List.set_cons_succ]
        refine wpAnyH_take (i := 1) (oi := ⟨some 42, _, _, _, _, _⟩) (v := ?_) rfl (by kernel_rfl) (by kernel_rfl) (by kernel_rfl) (fun _ _ _ h => h) (Or.inl ⟨by rfl, ?_⟩) hHeld ?_
        rotate_left
        · intro w hSw
          (try dsimp only at hSw)
          first | (go_simp; done) | (go_simp; with_reducible rfl) | with_reducible rfl
        try simp only [Act.put, List.setIfInBounds_toArray, List.set_cons_zero, List.set_cons_succ]
        refine wpAnyH_take (i := 2) (oi := ⟨some 43, _, _, _, _, _⟩) (v := ?_) rfl (by kernel_rfl) (by kernel_rfl) (by kernel_rfl) (fun _ _ _ h => h) (Or.inl ⟨by rfl, ?_⟩) hHeld ?_
        rotate_left
        · intro w hSw
          (try dsimp only at hSw)
          first | (go_simp; done) | (go_simp; with_reducible rfl) | with_reducible rfl
        try simp only [Act.put, List.setIfInBounds_toArray, List.set_cons_zero, List.set_cons_succ]
        refine wpAnyH_take (i := 3) (oi := ⟨some 44, _, _, _, _, _⟩) (v := ?_) rfl (by kernel_rfl) (by kernel_rfl) (by kernel_rfl) (fun _ _ _ h => h) (Or.inl ⟨by rfl, ?_⟩) hHeld ?_
        rotate_left
        · intro w hSw
          (try dsimp only at hSw)
          first | (go_simp; done) | (go_simp; with_reducible rfl) | with_reducible rfl
        try simp only [Act.put, List.setIfInBounds_toArray, List.set_cons_zero, List.set_cons_succ]
        refine wpAnyH_take (i := 5) (oi := ⟨some 46, _, _, _, _, _⟩) (v := ?_) rfl (by kernel_rfl) (by kernel_rfl) (by kernel_rfl) (fun _ _ _ h => h) (Or.inl ⟨by rfl, ?_⟩) hHeld ?_
        rotate_left
        · intro w hSw
          (try dsimp only at hSw)
          first | (go_simp; done) | (go_simp; with_reducible rfl) | with_reducible rfl
        try simp only [Act.put, List.setIfInBounds_toArray, List.set_cons_zero, List.set_cons_succ]
        refine wpAnyH_take (i := 6) (oi := ⟨some 47, _, _, _, _, _⟩) (v := ?_) rfl (by kernel_rfl) (by kernel_rfl) (by kernel_rfl) (fun _ _ _ h => h) (Or.inl ⟨by rfl, ?_⟩) hHeld ?_
        rotate_left
        · intro w hSw
          (try dsimp only at hSw)
          first | (go_simp; done) | (go_simp; with_reducible rfl) | with_reducible rfl
        try simp only [Act.put, List.setIfInBounds_toArray, List.set_cons_zero, List.set_cons_succ]
        refine wpAnyH_take (i := 7) (oi := ⟨some 48, _, _, _, _, _⟩) (v := ?_) rfl (by kernel_rfl) (by kernel_rfl) (by kernel_rfl) (fun _ _ _ h => h) (Or.inl ⟨by rfl, ?_⟩) hHeld ?_
        rotate_left
        · intro w hSw
          (try dsimp only at hSw)
          first | (go_simp; done) | (go_simp; with_reducible rfl) | with_reducible rfl
        try simp only [Act.put, List.setIfInBounds_toArray, List.set_cons_zero, List.set_cons_succ]
        refine wpAnyH_ready (rs := [4, 14]) (by kernel_rfl) (by simp) ?_
        refine AllReadyH.cons (o := ⟨some 45, _, _, _, _, _⟩) rfl (fun K hK => ?_) ?_
        · skip
          go_simp
          (go_at_call 39; (with_reducible refine (HIM1.out _ lx).mono ?_); rintro e wa ⟨rfl, hwn⟩; replace lx := below_drewE lx hwn; clear hwn)
          refine hK.out _ _ ?_ (fun hHeld => ?_)
          · exact ⟨(lx.cell (p := ⟨w.heap.size, 0, none⟩) l0).trans k0, (lx.cell (p := ⟨w.heap.size, 1, none⟩) l0).trans k1, (lx.cell (p := ⟨w.heap.size + 1 + 1 + 1 + 1 + 1 + 1 + 1, 0, none⟩) l7).trans k7, (lx.cell (p := ⟨Bx, 0, none⟩) lb).trans x0, (lx.cell (p := ⟨Bx, 1, none⟩) lb).trans x1⟩
          clear hK K
          try simp only [Act.put, List.setIfInBounds_toArray, List.set_cons_zero, List.set_cons_succ]
          refine wpAnyH_ready (rs := [8, 14]) (by kernel_rfl) (by simp) ?_
          refine AllReadyH.cons (o := ⟨some 49, _, _, _, _, _⟩) rfl (fun K hK => ?_) ?_
          · skip
            go_simp
            (go_at_call 39; (with_reducible refine (HIM2.out _ lx).mono ?_); rintro e wb ⟨rfl, hwn⟩; replace lx := below_drewE lx hwn; clear hwn)
            refine hK.out _ _ ?_ (fun hHeld => ?_)
            · exact ⟨(lx.cell (p := ⟨w.heap.size, 0, none⟩) l0).trans k0, (lx.cell (p := ⟨w.heap.size, 1, none⟩) l0).trans k1, (lx.cell (p := ⟨w.heap.size + 1 + 1 + 1 + 1 + 1 + 1 + 1, 0, none⟩) l7).trans k7, (lx.cell (p := ⟨Bx, 0, none⟩) lb).trans x0, (lx.cell (p := ⟨Bx, 1, none⟩) lb).trans x1⟩
            clear hK K
            try simp only [Act.put, List.setIfInBounds_toArray, List.set_cons_zero, List.set_cons_succ]
            refine wpAnyH_ready (rs := [9, 14]) (by kernel_rfl) (by simp) ?_
            refine AllReadyH.cons (o := ⟨some 50, _, _, _, _, _⟩) rfl (fun K hK => ?_) ?_
            · skip
              go_simp
              (go_at_call 41; (with_reducible refine (HAND.out _ lx).mono ?_); rintro e w6 ⟨A', c', rfl, hG, hsep, hb6⟩; have hsp := hsep.mono (Nat.le_refl _) lx.size; replace lx := lx.trans (hb6.mono lx.size))
              refine hK.out _ _ ?_ (fun hHeld => ?_)
              · exact ⟨(lx.cell (p := ⟨w.heap.size, 0, none⟩) l0).trans k0, (lx.cell (p := ⟨w.heap.size, 1, none⟩) l0).trans k1, (lx.cell (p := ⟨w.heap.size + 1 + 1 + 1 + 1 + 1 + 1 + 1, 0, none⟩) l7).trans k7, (lx.cell (p := ⟨Bx, 0, none⟩) lb).trans x0, (lx.cell (p := ⟨Bx, 1, none⟩) lb).trans x1⟩
              clear hK K
              try simp only [Act.put, List.setIfInBounds_toArray, List.set_cons_zero, List.set_cons_succ]
              refine wpAnyH_take (i := 10) (oi := ⟨some 40, _, _, _, _, _⟩) (v := ?_) rfl (by kernel_rfl) (by kernel_rfl) (by kernel_rfl) (fun _ _ _ h => h) (Or.inl ⟨by rfl, ?_⟩) hHeld ?_
              rotate_left
              · intro w hSw
                (try dsimp only at hSw)
                first | (go_simp; done) | (go_simp; with_reducible rfl) | with_reducible rfl
              try simp only [Act.put, List.setIfInBounds_toArray, List.set_cons_zero, List.set_cons_succ]
              refine wpAnyH_take (i := 11) (oi := ⟨some 51, _, _, _, _, _⟩) (v := ?_) rfl (by kernel_rfl) (by kernel_rfl) (by kernel_rfl) (fun _ _ _ h => h) (Or.inl ⟨by rfl, ?_⟩) hHeld ?_
              rotate_left
              · intro w hSw
                (try dsimp only at hSw)
                first | (go_simp; done) | (go_simp; with_reducible rfl) | with_reducible rfl
              try simp only [Act.put, List.setIfInBounds_toArray, List.set_cons_zero, List.set_cons_succ]
              refine wpAnyH_take (i := 12) (oi := ⟨some 52, _, _, _, _, _⟩) (v := ?_) rfl (by kernel_rfl) (by kernel_rfl) (by kernel_rfl) (fun _ _ _ h => h) (Or.inl ⟨by rfl, ?_⟩) hHeld ?_
              rotate_left
              · intro w hSw
                (try dsimp only at hSw)
                first | (go_simp; done) | (go_simp; with_reducible rfl) | with_reducible rfl
              try simp only [Act.put, List.setIfInBounds_toArray, List.set_cons_zero, List.set_cons_succ]
              refine wpAnyH_take (i := 13) (oi := ⟨some 53, _, _, _, _, _⟩) (v := ?_) rfl (by kernel_rfl) (by kernel_rfl) (by kernel_rfl) (fun _ _ _ h => h) (Or.inl ⟨by rfl, ?_⟩) hHeld ?_
              rotate_left
              · intro w hSw
                (try dsimp only at hSw)
                first | (go_simp; done) | (go_simp; with_reducible rfl) | with_reducible rfl
              try simp only [Act.put, List.setIfInBounds_toArray, List.set_cons_zero, List.set_cons_succ]
              refine wpAnyH_ready (rs := [14]) (by kernel_rfl) (by simp) ?_
              refine AllReadyH.cons (o := ⟨some 15, _, _, _, _, _⟩) rfl (fun K hK => ?_) AllReadyH.nil
              go_simp
              refine hK.out _ _ ?_ (fun hHeld => ?_)
              · exact ⟨((lx.alloc lx.size (Obj.cells #[.int .i64 0, .slice none 0 0] 26)).cell (p := ⟨w.heap.size, 0, none⟩) l0).trans k0, ((lx.alloc lx.size (Obj.cells #[.int .i64 0, .slice none 0 0] 26)).cell (p := ⟨w.heap.size, 1, none⟩) l0).trans k1, ((lx.alloc lx.size (Obj.cells #[.int .i64 0, .slice none 0 0] 26)).cell (p := ⟨w.heap.size + 1 + 1 + 1 + 1 + 1 + 1 + 1, 0, none⟩) l7).trans k7, ((lx.alloc lx.size (Obj.cells #[.int .i64 0, .slice none 0 0] 26)).cell (p := ⟨Bx, 0, none⟩) lb).trans x0, ((lx.alloc lx.size (Obj.cells #[.int .i64 0, .slice none 0 0] 26)).cell (p := ⟨Bx, 1, none⟩) lb).trans x1⟩
              clear hK K
              try simp only [Act.put, List.setIfInBounds_toArray, List.set_cons_zero, List.set_cons_succ]
              refine wpAnyH_ready (rs := [15]) (by kernel_rfl) (by simp) ?_
              refine AllReadyH.cons (o := ⟨none, _, _, _, _, _⟩) rfl (fun K hK => ?_) AllReadyH.nil
              go_simp
              refine hK.out _ _ ?_ (fun hHeld => ?_)
              · exact ⟨((lx.alloc lx.size (Obj.cells #[.int .i64 r.1.1, .slice A' r.1.2.length c'] 26)).cell (p := ⟨w.heap.size, 0, none⟩) l0).trans k0, ((lx.alloc lx.size (Obj.cells #[.int .i64 r.1.1, .slice A' r.1.2.length c'] 26)).cell (p := ⟨w.heap.size, 1, none⟩) l0).trans k1, ((lx.alloc lx.size (Obj.cells #[.int .i64 r.1.1, .slice A' r.1.2.length c'] 26)).cell (p := ⟨w.heap.size + 1 + 1 + 1 + 1 + 1 + 1 + 1, 0, none⟩) l7).trans k7, ((lx.alloc lx.size (Obj.cells #[.int .i64 r.1.1, .slice A' r.1.2.length c'] 26)).cell (p := ⟨Bx, 0, none⟩) lb).trans x0, ((lx.alloc lx.size (Obj.cells #[.int .i64 r.1.1, .slice A' r.1.2.length c'] 26)).cell (p := ⟨Bx, 1, none⟩) lb).trans x1⟩
              clear hK K
              try simp only [Act.put, List.setIfInBounds_toArray, List.set_cons_zero, List.set_cons_succ]
              refine wpAnyH_take (i := 16) (oi := ⟨some 16, _, _, _, _, _⟩) (v := ?_) rfl (by kernel_rfl) (by kernel_rfl) (by kernel_rfl) (fun _ _ _ h => h) (Or.inl ⟨by rfl, ?_⟩) hHeld ?_
              rotate_left
              · intro w hSw
                (try dsimp only at hSw)
                first | (go_simp; done) | (go_simp; with_reducible rfl) | with_reducible rfl
              try simp only [Act.put, List.setIfInBounds_toArray, List.set_cons_zero, List.set_cons_succ]
              refine wpAnyH_take (i := 17) (oi := ⟨some 17, _, _, _, _, _⟩) (v := ?_) rfl (by kernel_rfl) (by kernel_rfl) (by kernel_rfl) (fun _ _ _ h => h) (Or.inl ⟨by rfl, ?_⟩) hHeld ?_
              rotate_left
              · intro w hSw
                (try dsimp only at hSw)
                first | (go_simp; done) | (go_simp; with_reducible rfl) | with_reducible rfl
              try simp only [Act.put, List.setIfInBounds_toArray, List.set_cons_zero, List.set_cons_succ]
              refine wpAnyH_done (by kernel_rfl) ?_ _
              refine only_end ?_
              exact ⟨_, A', c', rfl, AR.fresh lx hG hsp⟩
            · skip
              refine AllReadyH.cons (o := ⟨some 15, _, _, _, _, _⟩) rfl (fun K hK => ?_) AllReadyH.nil
              go_simp
              refine hK.out _ _ ?_ (fun hHeld => ?_)
              · exact ⟨((lx.alloc lx.size (Obj.cells #[.int .i64 0, .slice none 0 0] 26)).cell (p := ⟨w.heap.size, 0, none⟩) l0).trans k0, ((lx.alloc lx.size (Obj.cells #[.int .i64 0, .slice none 0 0] 26)).cell (p := ⟨w.heap.size, 1, none⟩) l0).trans k1, ((lx.alloc lx.size (Obj.cells #[.int .i64 0, .slice none 0 0] 26)).cell (p := ⟨w.heap.size + 1 + 1 + 1 + 1 + 1 + 1 + 1, 0, none⟩) l7).trans k7, ((lx.alloc lx.size (Obj.cells #[.int .i64 0, .slice none 0 0] 26)).cell (p := ⟨Bx, 0, none⟩) lb).trans x0, ((lx.alloc lx.size (Obj.cells #[.int .i64 0, .slice none 0 0] 26)).cell (p := ⟨Bx, 1, none⟩) lb).trans x1⟩
              clear hK K
              try simp only [Act.put, List.setIfInBounds_toArray, List.set_cons_zero, List.set_cons_succ]
              have hkk := lx.size
              have bk := Blk.new wb 26 #[.int .i64 0, .slice none 0 0]
              replace lx := lx.alloc lx.size (Obj.cells #[.int .i64 0, .slice none 0 0] 26)
              refine wpAnyH_ready (rs := [9]) (by kernel_rfl) (by simp) ?_
              refine AllReadyH.cons (o := ⟨some 50, _, _, _, _, _⟩) rfl (fun K hK => ?_) AllReadyH.nil
              go_simp
              (go_at_call 41; (with_reducible refine (HAND.out _ lx).mono ?_); rintro e w6 ⟨A', c', rfl, hG, hsep, hb6⟩; have hsp := hsep.mono (Nat.le_refl _) lx.size; replace lx := lx.trans (hb6.mono lx.size); have hneA := hsep.ne (Nat.zero_le _) bk.lt; replace bk := bk.below hb6 bk.lt)
              refine hK.out _ _ ?_ (fun hHeld => ?_)
              · exact ⟨(lx.cell (p := ⟨w.heap.size, 0, none⟩) l0).trans k0, (lx.cell (p := ⟨w.heap.size, 1, none⟩) l0).trans k1, (lx.cell (p := ⟨w.heap.size + 1 + 1 + 1 + 1 + 1 + 1 + 1, 0, none⟩) l7).trans k7, (lx.cell (p := ⟨Bx, 0, none⟩) lb).trans x0, (lx.cell (p := ⟨Bx, 1, none⟩) lb).trans x1⟩
              clear hK K
              try simp only [Act.put, List.setIfInBounds_toArray, List.set_cons_zero, List.set_cons_succ]
              refine wpAnyH_take (i := 10) (oi := ⟨some 40, _, _, _, _, _⟩) (v := ?_) rfl (by kernel_rfl) (by kernel_rfl) (by kernel_rfl) (fun _ _ _ h => h) (Or.inl ⟨by rfl, ?_⟩) hHeld ?_
              rotate_left
              · intro w hSw
                (try dsimp only at hSw)
                first | (go_simp; done) | (go_simp; with_reducible rfl) | with_reducible rfl
              try simp only [Act.put, List.setIfInBounds_toArray, List.set_cons_zero, List.set_cons_succ]
              refine wpAnyH_take (i := 11) (oi := ⟨some 51, _, _, _, _, _⟩) (v := ?_) rfl (by kernel_rfl) (by kernel_rfl) (by kernel_rfl) (fun _ _ _ h => h) (Or.inl ⟨by rfl, ?_⟩) hHeld ?_
              rotate_left
              · intro w hSw
                (try dsimp only at hSw)
                first | (go_simp; done) | (go_simp; with_reducible rfl) | with_reducible rfl
              try simp only [Act.put, List.setIfInBounds_toArray, List.set_cons_zero, List.set_cons_succ]
              refine wpAnyH_take (i := 12) (oi := ⟨some 52, _, _, _, _, _⟩) (v := ?_) rfl (by kernel_rfl) (by kernel_rfl) (by kernel_rfl) (fun _ _ _ h => h) (Or.inl ⟨by rfl, ?_⟩) hHeld ?_
              rotate_left
              · intro w hSw
                (try dsimp only at hSw)
                first | (go_simp; done) | (go_simp; with_reducible rfl) | with_reducible rfl
              try simp only [Act.put, List.setIfInBounds_toArray, List.set_cons_zero, List.set_cons_succ]
              refine wpAnyH_take (i := 13) (oi := ⟨some 53, _, _, _, _, _⟩) (v := ?_) rfl (by kernel_rfl) (by kernel_rfl) (by kernel_rfl) (fun _ _ _ h => h) (Or.inl ⟨by rfl, ?_⟩) hHeld ?_
              rotate_left
              · intro w hSw
                (try dsimp only at hSw)
                first | (go_simp; done) | (go_simp; with_reducible rfl) | with_reducible rfl
              try simp only [Act.put, List.setIfInBounds_toArray, List.set_cons_zero, List.set_cons_succ]
              have bk0 := bk.cell 0
              have bk1 := bk.cell 1
              have bz0 := bk.frozen 0
              have bz1 := bk.frozen 1
              simp only [List.getElem?_toArray, List.getElem?_cons_zero, List.getElem?_cons_succ] at bk0 bk1
              refine wpAnyH_ready (rs := [15]) (by kernel_rfl) (by simp) ?_
              refine AllReadyH.cons (o := ⟨none, _, _, _, _, _⟩) rfl (fun K hK => ?_) AllReadyH.nil
              go_simp
              refine hK.out _ _ ?_ (fun hHeld => ?_)
              · exact ⟨(((lx.setCell (p := ⟨_, 0, none⟩) hkk (.int .i64 r.1.1)).setCell (p := ⟨_, 1, none⟩) hkk (.slice A' r.1.2.length c')).cell (p := ⟨w.heap.size, 0, none⟩) l0).trans k0, (((lx.setCell (p := ⟨_, 0, none⟩) hkk (.int .i64 r.1.1)).setCell (p := ⟨_, 1, none⟩) hkk (.slice A' r.1.2.length c')).cell (p := ⟨w.heap.size, 1, none⟩) l0).trans k1, (((lx.setCell (p := ⟨_, 0, none⟩) hkk (.int .i64 r.1.1)).setCell (p := ⟨_, 1, none⟩) hkk (.slice A' r.1.2.length c')).cell (p := ⟨w.heap.size + 1 + 1 + 1 + 1 + 1 + 1 + 1, 0, none⟩) l7).trans k7, (((lx.setCell (p := ⟨_, 0, none⟩) hkk (.int .i64 r.1.1)).setCell (p := ⟨_, 1, none⟩) hkk (.slice A' r.1.2.length c')).cell (p := ⟨Bx, 0, none⟩) lb).trans x0, (((lx.setCell (p := ⟨_, 0, none⟩) hkk (.int .i64 r.1.1)).setCell (p := ⟨_, 1, none⟩) hkk (.slice A' r.1.2.length c')).cell (p := ⟨Bx, 1, none⟩) lb).trans x1⟩
              clear hK K
              try simp only [Act.put, List.setIfInBounds_toArray, List.set_cons_zero, List.set_cons_succ]
              refine wpAnyH_take (i := 16) (oi := ⟨some 16, _, _, _, _, _⟩) (v := ?_) rfl (by kernel_rfl) (by kernel_rfl) (by kernel_rfl) (fun _ _ _ h => h) (Or.inl ⟨by rfl, ?_⟩) hHeld ?_
              rotate_left
              · intro w hSw
                (try dsimp only at hSw)
                first | (go_simp; done) | (go_simp; with_reducible rfl) | with_reducible rfl
              try simp only [Act.put, List.setIfInBounds_toArray, List.set_cons_zero, List.set_cons_succ]
              refine wpAnyH_take (i := 17) (oi := ⟨some 17, _, _, _, _, _⟩) (v := ?_) rfl (by kernel_rfl) (by kernel_rfl) (by kernel_rfl) (fun _ _ _ h => h) (Or.inl ⟨by rfl, ?_⟩) hHeld ?_
              rotate_left
              · intro w hSw
                (try dsimp only at hSw)
                first | (go_simp; done) | (go_simp; with_reducible rfl) | with_reducible rfl
              try simp only [Act.put, List.setIfInBounds_toArray, List.set_cons_zero, List.set_cons_succ]
              refine wpAnyH_done (by kernel_rfl) ?_ _
              refine only_end ?_
              exact ⟨_, A', c', rfl, AR.old lx hkk bk hG hsp hneA⟩
          · skip
            refine AllReadyH.cons (o := ⟨some 15, _, _, _, _, _⟩) rfl (fun K hK => ?_) AllReadyH.nil
            go_simp
            refine hK.out _ _ ?_ (fun hHeld => ?_)
            · exact ⟨((lx.alloc lx.size (Obj.cells #[.int .i64 0, .slice none 0 0] 26)).cell (p := ⟨w.heap.size, 0, none⟩) l0).trans k0, ((lx.alloc lx.size (Obj.cells #[.int .i64 0, .slice none 0 0] 26)).cell (p := ⟨w.heap.size, 1, none⟩) l0).trans k1, ((lx.alloc lx.size (Obj.cells #[.int .i64 0, .slice none 0 0] 26)).cell (p := ⟨w.heap.size + 1 + 1 + 1 + 1 + 1 + 1 + 1, 0, none⟩) l7).trans k7, ((lx.alloc lx.size (Obj.cells #[.int .i64 0, .slice none 0 0] 26)).cell (p := ⟨Bx, 0, none⟩) lb).trans x0, ((lx.alloc lx.size (Obj.cells #[.int .i64 0, .slice none 0 0] 26)).cell (p := ⟨Bx, 1, none⟩) lb).trans x1⟩
            clear hK K
            try simp only [Act.put, List.setIfInBounds_toArray, List.set_cons_zero, List.set_cons_succ]
            have hkk := lx.size
            have bk := Blk.new wa 26 #[.int .i64 0, .slice none 0 0]
            replace lx := lx.alloc lx.size (Obj.cells #[.int .i64 0, .slice none 0 0] 26)
            refine wpAnyH_ready (rs := [8]) (by kernel_rfl) (by simp) ?_
            refine AllReadyH.cons (o := ⟨some 49, _, _, _, _, _⟩) rfl (fun K hK => ?_) AllReadyH.nil
            go_simp
            (go_at_call 39; (with_reducible refine (HIM2.out _ lx).mono ?_); rintro e wb ⟨rfl, hwn⟩; replace lx := below_drewE lx hwn; replace bk := bk.drewE hwn; clear hwn)
            refine hK.out _ _ ?_ (fun hHeld => ?_)
            · exact ⟨(lx.cell (p := ⟨w.heap.size, 0, none⟩) l0).trans k0, (lx.cell (p := ⟨w.heap.size, 1, none⟩) l0).trans k1, (lx.cell (p := ⟨w.heap.size + 1 + 1 + 1 + 1 + 1 + 1 + 1, 0, none⟩) l7).trans k7, (lx.cell (p := ⟨Bx, 0, none⟩) lb).trans x0, (lx.cell (p := ⟨Bx, 1, none⟩) lb).trans x1⟩
            clear hK K
            try simp only [Act.put, List.setIfInBounds_toArray, List.set_cons_zero, List.set_cons_succ]
            refine wpAnyH_ready (rs := [9]) (by kernel_rfl) (by simp) ?_
            refine AllReadyH.cons (o := ⟨some 50, _, _, _, _, _⟩) rfl (fun K hK => ?_) AllReadyH.nil
            go_simp
            (go_at_call 41; (with_reducible refine (HAND.out _ lx).mono ?_); rintro e w6 ⟨A', c', rfl, hG, hsep, hb6⟩; have hsp := hsep.mono (Nat.le_refl _) lx.size; replace lx := lx.trans (hb6.mono lx.size); have hneA := hsep.ne (Nat.zero_le _) bk.lt; replace bk := bk.below hb6 bk.lt)
            refine hK.out _ _ ?_ (fun hHeld => ?_)
            · exact ⟨(lx.cell (p := ⟨w.heap.size, 0, none⟩) l0).trans k0, (lx.cell (p := ⟨w.heap.size, 1, none⟩) l0).trans k1, (lx.cell (p := ⟨w.heap.size + 1 + 1 + 1 + 1 + 1 + 1 + 1, 0, none⟩) l7).trans k7, (lx.cell (p := ⟨Bx, 0, none⟩) lb).trans x0, (lx.cell (p := ⟨Bx, 1, none⟩) lb).trans x1⟩
            clear hK K
            try simp only [Act.put, List.setIfInBounds_toArray, List.set_cons_zero, List.set_cons_succ]
            refine wpAnyH_take (i := 10) (oi := ⟨some 40, _, _, _, _, _⟩) (v := ?_) rfl (by kernel_rfl) (by kernel_rfl) (by kernel_rfl) (fun _ _ _ h => h) (Or.inl ⟨by rfl, ?_⟩) hHeld ?_
            rotate_left
            · intro w hSw
              (try dsimp only at hSw)
              first | (go_simp; done) | (go_simp; with_reducible rfl) | with_reducible rfl
            try simp only [Act.put, List.setIfInBounds_toArray, List.set_cons_zero, List.set_cons_succ]
            refine wpAnyH_take (i := 11) (oi := ⟨some 51, _, _, _, _, _⟩) (v := ?_) rfl (by kernel_rfl) (by kernel_rfl) (by kernel_rfl) (fun _ _ _ h => h) (Or.inl ⟨by rfl, ?_⟩) hHeld ?_
            rotate_left
            · intro w hSw
              (try dsimp only at hSw)
              first | (go_simp; done) | (go_simp; with_reducible rfl) | with_reducible rfl
            try simp only [Act.put, List.setIfInBounds_toArray, List.set_cons_zero, List.set_cons_succ]
            refine wpAnyH_take (i := 12) (oi := ⟨some 52, _, _, _, _, _⟩) (v := ?_) rfl (by kernel_rfl) (by kernel_rfl) (by kernel_rfl) (fun _ _ _ h => h) (Or.inl ⟨by rfl, ?_⟩) hHeld ?_
            rotate_left
            · intro w hSw
              (try dsimp only at hSw)
              first | (go_simp; done) | (go_simp; with_reducible rfl) | with_reducible rfl
            try simp only [Act.put, List.setIfInBounds_toArray, List.set_cons_zero, List.set_cons_succ]
            refine wpAnyH_take (i := 13) (oi := ⟨some 53, _, _, _, _, _⟩) (v := ?_) rfl (by kernel_rfl) (by kernel_rfl) (by kernel_rfl) (fun _ _ _ h => h) (Or.inl ⟨by rfl, ?_⟩) hHeld ?_
            rotate_left
            · intro w hSw
              (try dsimp only at hSw)
              first | (go_simp; done) | (go_simp; with_reducible rfl) | with_reducible rfl
            try simp only [Act.put, List.setIfInBounds_toArray, List.set_cons_zero, List.set_cons_succ]
            have bk0 := bk.cell 0
            have bk1 := bk.cell 1
            have bz0 := bk.frozen 0
            have bz1 := bk.frozen 1
            simp only [List.getElem?_toArray, List.getElem?_cons_zero, List.getElem?_cons_succ] at bk0 bk1
            refine wpAnyH_ready (rs := [15]) (by kernel_rfl) (by simp) ?_
            refine AllReadyH.cons (o := ⟨none, _, _, _, _, _⟩) rfl (fun K hK => ?_) AllReadyH.nil
            go_simp
            refine hK.out _ _ ?_ (fun hHeld => ?_)
            · exact ⟨(((lx.setCell (p := ⟨_, 0, none⟩) hkk (.int .i64 r.1.1)).setCell (p := ⟨_, 1, none⟩) hkk (.slice A' r.1.2.length c')).cell (p := ⟨w.heap.size, 0, none⟩) l0).trans k0, (((lx.setCell (p := ⟨_, 0, none⟩) hkk (.int .i64 r.1.1)).setCell (p := ⟨_, 1, none⟩) hkk (.slice A' r.1.2.length c')).cell (p := ⟨w.heap.size, 1, none⟩) l0).trans k1, (((lx.setCell (p := ⟨_, 0, none⟩) hkk (.int .i64 r.1.1)).setCell (p := ⟨_, 1, none⟩) hkk (.slice A' r.1.2.length c')).cell (p := ⟨w.heap.size + 1 + 1 + 1 + 1 + 1 + 1 + 1, 0, none⟩) l7).trans k7, (((lx.setCell (p := ⟨_, 0, none⟩) hkk (.int .i64 r.1.1)).setCell (p := ⟨_, 1, none⟩) hkk (.slice A' r.1.2.length c')).cell (p := ⟨Bx, 0, none⟩) lb).trans x0, (((lx.setCell (p := ⟨_, 0, none⟩) hkk (.int .i64 r.1.1)).setCell (p := ⟨_, 1, none⟩) hkk (.slice A' r.1.2.length c')).cell (p := ⟨Bx, 1, none⟩) lb).trans x1⟩
            clear hK K
            try simp only [Act.put, List.setIfInBounds_toArray, List.set_cons_zero, List.set_cons_succ]
            refine wpAnyH_take (i := 16) (oi := ⟨some 16, _, _, _, _, _⟩) (v := ?_) rfl (by kernel_rfl) (by kernel_rfl) (by kernel_rfl) (fun _ _ _ h => h) (Or.inl ⟨by rfl, ?_⟩) hHeld ?_
            rotate_left
            · intro w hSw
              (try dsimp only at hSw)
              first | (go_simp; done) | (go_simp; with_reducible rfl) | with_reducible rfl
            try simp only [Act.put, List.setIfInBounds_toArray, List.set_cons_zero, List.set_cons_succ]
            refine wpAnyH_take (i := 17) (oi := ⟨some 17, _, _, _, _, _⟩) (v := ?_) rfl (by kernel_rfl) (by kernel_rfl) (by kernel_rfl) (fun _ _ _ h => h) (Or.inl ⟨by rfl, ?_⟩) hHeld ?_
            rotate_left
            · intro w hSw
              (try dsimp only at hSw)
              first | (go_simp; done) | (go_simp; with_reducible rfl) | with_reducible rfl
            try simp only [Act.put, List.setIfInBounds_toArray, List.set_cons_zero, List.set_cons_succ]
            refine wpAnyH_done (by kernel_rfl) ?_ _
            refine only_end ?_
            exact ⟨_, A', c', rfl, AR.old lx hkk bk hG hsp hneA⟩
        · skip
          refine AllReadyH.cons (o := ⟨some 15, _, _, _, _, _⟩) rfl (fun K hK => ?_) AllReadyH.nil
          go_simp
          refine hK.out _ _ ?_ (fun hHeld => ?_)
          · exact ⟨((lx.alloc lx.size (Obj.cells #[.int .i64 0, .slice none 0 0] 26)).cell (p := ⟨w.heap.size, 0, none⟩) l0).trans k0, ((lx.alloc lx.size (Obj.cells #[.int .i64 0, .slice none 0 0] 26)).cell (p := ⟨w.heap.size, 1, none⟩) l0).trans k1, ((lx.alloc lx.size (Obj.cells #[.int .i64 0, .slice none 0 0] 26)).cell (p := ⟨w.heap.size + 1 + 1 + 1 + 1 + 1 + 1 + 1, 0, none⟩) l7).trans k7, ((lx.alloc lx.size (Obj.cells #[.int .i64 0, .slice none 0 0] 26)).cell (p := ⟨Bx, 0, none⟩) lb).trans x0, ((lx.alloc lx.size (Obj.cells #[.int .i64 0, .slice none 0 0] 26)).cell (p := ⟨Bx, 1, none⟩) lb).trans x1⟩
          clear hK K
          try simp only [Act.put, List.setIfInBounds_toArray, List.set_cons_zero, List.set_cons_succ]
          have hkk : W.heap.size ≤ W.heap.size := Nat.le_refl _
          have bk : Blk (W.alloc (Obj.cells #[.int .i64 0, .slice none 0 0] 26)).drew W.heap.size 26 #[.int .i64 0, .slice none 0 0] := Blk.new W 26 #[.int .i64 0, .slice none 0 0]
          replace lx : Below W.heap.size W (W.alloc (Obj.cells #[.int .i64 0, .slice none 0 0] 26)).drew := ((Below.refl _ W).alloc (Nat.le_refl _) _).drew
          refine wpAnyH_ready (rs := [4]) (by kernel_rfl) (by simp) ?_
          refine AllReadyH.cons (o := ⟨some 45, _, _, _, _, _⟩) rfl (fun K hK => ?_) AllReadyH.nil
          go_simp
          (go_at_call 39; (with_reducible refine (HIM1.out _ lx).mono ?_); rintro e wa ⟨rfl, hwn⟩; replace lx := below_drewE lx hwn; replace bk := bk.drewE hwn; clear hwn)
          refine hK.out _ _ ?_ (fun hHeld => ?_)
          · exact ⟨(lx.cell (p := ⟨w.heap.size, 0, none⟩) l0).trans k0, (lx.cell (p := ⟨w.heap.size, 1, none⟩) l0).trans k1, (lx.cell (p := ⟨w.heap.size + 1 + 1 + 1 + 1 + 1 + 1 + 1, 0, none⟩) l7).trans k7, (lx.cell (p := ⟨Bx, 0, none⟩) lb).trans x0, (lx.cell (p := ⟨Bx, 1, none⟩) lb).trans x1⟩
          clear hK K
          try simp only [Act.put, List.setIfInBounds_toArray, List.set_cons_zero, List.set_cons_succ]
          refine wpAnyH_ready (rs := [8]) (by kernel_rfl) (by simp) ?_
          refine AllReadyH.cons (o := ⟨some 49, _, _, _, _, _⟩) rfl (fun K hK => ?_) AllReadyH.nil
          go_simp
          (go_at_call 39; (with_reducible refine (HIM2.out _ lx).mono ?_); rintro e wb ⟨rfl, hwn⟩; replace lx := below_drewE lx hwn; replace bk := bk.drewE hwn; clear hwn)
          refine hK.out _ _ ?_ (fun hHeld => ?_)
          · exact ⟨(lx.cell (p := ⟨w.heap.size, 0, none⟩) l0).trans k0, (lx.cell (p := ⟨w.heap.size, 1, none⟩) l0).trans k1, (lx.cell (p := ⟨w.heap.size + 1 + 1 + 1 + 1 + 1 + 1 + 1, 0, none⟩) l7).trans k7, (lx.cell (p := ⟨Bx, 0, none⟩) lb).trans x0, (lx.cell (p := ⟨Bx, 1, none⟩) lb).trans x1⟩
          clear hK K
          try simp only [Act.put, List.setIfInBounds_toArray, List.set_cons_zero, List.set_cons_succ]
          refine wpAnyH_ready (rs := [9]) (by kernel_rfl) (by simp) ?_
          refine AllReadyH.cons (o := ⟨some 50, _, _, _, _, _⟩) rfl (fun K hK => ?_) AllReadyH.nil
          go_simp
          (go_at_call 41; (with_reducible refine (HAND.out _ lx).mono ?_); rintro e w6 ⟨A', c', rfl, hG, hsep, hb6⟩; have hsp := hsep.mono (Nat.le_refl _) lx.size; replace lx := lx.trans (hb6.mono lx.size); have hneA := hsep.ne (Nat.zero_le _) bk.lt; replace bk := bk.below hb6 bk.lt)
          refine hK.out _ _ ?_ (fun hHeld => ?_)
          · exact ⟨(lx.cell (p := ⟨w.heap.size, 0, none⟩) l0).trans k0, (lx.cell (p := ⟨w.heap.size, 1, none⟩) l0).trans k1, (lx.cell (p := ⟨w.heap.size + 1 + 1 + 1 + 1 + 1 + 1 + 1, 0, none⟩) l7).trans k7, (lx.cell (p := ⟨Bx, 0, none⟩) lb).trans x0, (lx.cell (p := ⟨Bx, 1, none⟩) lb).trans x1⟩
          clear hK K
          try simp only [Act.put, List.setIfInBounds_toArray, List.set_cons_zero, List.set_cons_succ]
          refine wpAnyH_take (i := 10) (oi := ⟨some 40, _, _, _, _, _⟩) (v := ?_) rfl (by kernel_rfl) (by kernel_rfl) (by kernel_rfl) (fun _ _ _ h => h) (Or.inl ⟨by rfl, ?_⟩) hHeld ?_
          rotate_left
          · intro w hSw
            (try dsimp only at hSw)
            first | (go_simp; done) | (go_simp; with_reducible rfl) | with_reducible rfl
          try simp only [Act.put, List.setIfInBounds_toArray, List.set_cons_zero, List.set_cons_succ]
          refine wpAnyH_take (i := 11) (oi := ⟨some 51, _, _, _, _, _⟩) (v := ?_) rfl (by kernel_rfl) (by kernel_rfl) (by kernel_rfl) (fun _ _ _ h => h) (Or.inl ⟨by rfl, ?_⟩) hHeld ?_
          rotate_left
          · intro w hSw
            (try dsimp only at hSw)
            first | (go_simp; done) | (go_simp; with_reducible rfl) | with_reducible rfl
          try simp only [Act.put, List.setIfInBounds_toArray, List.set_cons_zero, List.set_cons_succ]
          refine wpAnyH_take (i := 12) (oi := ⟨some 52, _, _, _, _, _⟩) (v := ?_) rfl (by kernel_rfl) (by kernel_rfl) (by kernel_rfl) (fun _ _ _ h => h) (Or.inl ⟨by rfl, ?_⟩) hHeld ?_
          rotate_left
          · intro w hSw
            (try dsimp only at hSw)
            first | (go_simp; done) | (go_simp; with_reducible rfl) | with_reducible rfl
          try simp only [Act.put, List.setIfInBounds_toArray, List.set_cons_zero, List.set_cons_succ]
          refine wpAnyH_take (i := 13) (oi := ⟨some 53, _, _, _, _, _⟩) (v := ?_) rfl (by kernel_rfl) (by kernel_rfl) (by kernel_rfl) (fun _ _ _ h => h) (Or.inl ⟨by rfl, ?_⟩) hHeld ?_
          rotate_left
          · intro w hSw
            (try dsimp only at hSw)
            first | (go_simp; done) | (go_simp; with_reducible rfl) | with_reducible rfl
          try simp only [Act.put, List.setIfInBounds_toArray, List.set_cons_zero, List.set_cons_succ]
          have bk0 := bk.cell 0
          have bk1 := bk.cell 1
          have bz0 := bk.frozen 0
          have bz1 := bk.frozen 1
          simp only [List.getElem?_toArray, List.getElem?_cons_zero, List.getElem?_cons_succ] at bk0 bk1
          refine wpAnyH_ready (rs := [15]) (by kernel_rfl) (by simp) ?_
          refine AllReadyH.cons (o := ⟨none, _, _, _, _, _⟩) rfl (fun K hK => ?_) AllReadyH.nil
          go_simp
          refine hK.out _ _ ?_ (fun hHeld => ?_)
          · exact ⟨(((lx.setCell (p := ⟨_, 0, none⟩) hkk (.int .i64 r.1.1)).setCell (p := ⟨_, 1, none⟩) hkk (.slice A' r.1.2.length c')).cell (p := ⟨w.heap.size, 0, none⟩) l0).trans k0, (((lx.setCell (p := ⟨_, 0, none⟩) hkk (.int .i64 r.1.1)).setCell (p := ⟨_, 1, none⟩) hkk (.slice A' r.1.2.length c')).cell (p := ⟨w.heap.size, 1, none⟩) l0).trans k1, (((lx.setCell (p := ⟨_, 0, none⟩) hkk (.int .i64 r.1.1)).setCell (p := ⟨_, 1, none⟩) hkk (.slice A' r.1.2.length c')).cell (p := ⟨w.heap.size + 1 + 1 + 1 + 1 + 1 + 1 + 1, 0, none⟩) l7).trans k7, (((lx.setCell (p := ⟨_, 0, none⟩) hkk (.int .i64 r.1.1)).setCell (p := ⟨_, 1, none⟩) hkk (.slice A' r.1.2.length c')).cell (p := ⟨Bx, 0, none⟩) lb).trans x0, (((lx.setCell (p := ⟨_, 0, none⟩) hkk (.int .i64 r.1.1)).setCell (p := ⟨_, 1, none⟩) hkk (.slice A' r.1.2.length c')).cell (p := ⟨Bx, 1, none⟩) lb).trans x1⟩
          clear hK K
          try simp only [Act.put, List.setIfInBounds_toArray, List.set_cons_zero, List.set_cons_succ]
          refine wpAnyH_take (i := 16) (oi := ⟨some 16, _, _, _, _, _⟩) (v := ?_) rfl (by kernel_rfl) (by kernel_rfl) (by kernel_rfl) (fun _ _ _ h => h) (Or.inl ⟨by rfl, ?_⟩) hHeld ?_
          rotate_left
          · intro w hSw
            (try dsimp only at hSw)
            first | (go_simp; done) | (go_simp; with_reducible rfl) | with_reducible rfl
          try simp only [Act.put, List.setIfInBounds_toArray, List.set_cons_zero, List.set_cons_succ]
          refine wpAnyH_take (i := 17) (oi := ⟨some 17, _, _, _, _, _⟩) (v := ?_) rfl (by kernel_rfl) (by kernel_rfl) (by kernel_rfl) (fun _ _ _ h => h) (Or.inl ⟨by rfl, ?_⟩) hHeld ?_
          rotate_left
          · intro w hSw
            (try dsimp only at hSw)
            first | (go_simp; done) | (go_simp; with_reducible rfl) | with_reducible rfl
          try simp only [Act.put, List.setIfInBounds_toArray, List.set_cons_zero, List.set_cons_succ]
          refine wpAnyH_done (by kernel_rfl) ?_ _
          refine only_end ?_
          exact ⟨_, A', c', rfl, AR.old lx hkk bk hG hsp hneA⟩
      case hR8 =>
        clear lx HAND HIM1 HIM2 k0 k1 k7 x0 x1 k6 l0 l7 l6 l5 lb
        rintro _ W8 ⟨k, A', c', rfl, hk, bk, hG8, hsp, lx⟩
        have C8 := C.below lx
        have hsW8 : w8.heap.size ≤ W8.heap.size := Nat.le_trans hsW lx.size
        have hsp8 : Sep 0 (w.heap.size + 8) A' := hsp.mono (Nat.le_refl _) (by omega)
        have q8 : KS (fun b => b < w8.heap.size ∧ b ≠ w.heap.size ∧ b ≠ w.heap.size + 1 + 1 ∧ b ≠ w.heap.size + 1 + 1 + 1 ∧ b ≠ w.heap.size + 1 + 1 + 1 + 1 ∧ b ≠ w.heap.size + 1 + 1 + 1 + 1 + 1) W W8 := KS.of_below (B := W.heap.size) (fun b h => by omega) lx
        have f8 : KeepsFrom w8.heap.size W W8 := KeepsFrom.of_below lx
        dsimp only
        obtain ⟨⟨n', t'⟩, z, er⟩ := r
        simp only at hfx hins bk hG8 HST ⊢
        by_cases her : er = 0
        · subst her
          obtain rfl := hins rfl
          rw [if_pos rfl] at HST
          have hz0 : 0 ≤ z := hfx.lit0
          have hz1 : z ≤ 4000 := hfx.lit1
          have htl' : t'.length ≤ t.length + 1 := hfx.len
          have hwf' : Wf t' := hfx.wf
          have e6 := C8.bx.cell 0
          have e0 := bk.cell 0
          have e1 := bk.cell 1
          have d0 := C8.bt.cell 0
          have d1 := C8.bt.cell 1
          have g0 := C8.bt.frozen 0
          have g1 := C8.bt.frozen 1
          simp only [List.getElem?_toArray, List.getElem?_cons_zero, List.getElem?_cons_succ] at e6 e0 e1 d0 d1
          have hix := ixI (w.heap.size + 1 + 1 + 1 + 1 + 1) 0 (1 + (nf + fg.length)) (1 + (nf + fg.length)) (nf + 1 + i) (by omega) (by omega)
          rw [Nat.zero_add, show ((nf + 1 + i : Nat) : Int) = 1 + (nf : Int) + (i : Int) by omega] at hix
          have ci := C8.bi.cell (nf + 1 + i)
          have gi := C8.bi.frozen (nf + 1 + i)
          rw [List.getElem?_toArray, List.getElem?_map, List.getElem?_eq_getElem (by omega), Option.map_some] at ci
          have S9 := (C8.step (c' := c') hG8 hsp8 (nf + 1 + i) z).drew
          gi_wp2
          refine round_step (S := fun V => V.cell? ⟨w.heap.size + 1 + 1 + 1 + 1 + 1 + 1, 0, none⟩ = some (.slice (some ⟨w.heap.size + 1 + 1 + 1 + 1 + 1, 0, none⟩) (1 + (nf + fg.length)) (1 + (nf + fg.length))) ∧ V.cell? ⟨k, 0, none⟩ = some (.int .i64 nt) ∧ V.cell? ⟨k, 1, none⟩ = some (.slice A' t'.length c')) (by kernel_rfl) (by kernel_rfl) ?hS11 (fun hHeld => ?h11)
          case hS11 => exact ⟨e6, e0, e1⟩
          refine wpAnyH_take (i := 0) (oi := ⟨some 58, _, _, _, _, _⟩) (v := ?_) rfl (by kernel_rfl) (by kernel_rfl) (by kernel_rfl) (fun _ _ _ h => h) (Or.inl ⟨by rfl, ?_⟩) hHeld ?_
          rotate_left
          · intro w hSw
            (try dsimp only at hSw)
            first | (go_simp; done) | (go_simp; with_reducible rfl) | with_reducible rfl
          try simp only [Act.put, List.setIfInBounds_toArray, List.set_cons_zero, List.set_cons_succ]
          refine wpAnyH_take (i := 1) (oi := ⟨some 59, _, _, _, _, _⟩) (v := ?_) rfl (by kernel_rfl) (by kernel_rfl) (by kernel_rfl) (fun _ _ _ h => h) (Or.inl ⟨by rfl, ?_⟩) hHeld ?_
          rotate_left
          · intro w hSw
            (try dsimp only at hSw)
            first | (go_simp; done) | (go_simp; with_reducible rfl) | with_reducible rfl
          try simp only [Act.put, List.setIfInBounds_toArray, List.set_cons_zero, List.set_cons_succ]
          refine wpAnyH_take (i := 2) (oi := ⟨some 60, _, _, _, _, _⟩) (v := ?_) rfl (by kernel_rfl) (by kernel_rfl) (by kernel_rfl) (fun _ _ _ h => h) (Or.inl ⟨by rfl, ?_⟩) hHeld ?_
          rotate_left
          · intro w hSw
            (try dsimp only at hSw)
            first | (go_simp; done) | (go_simp; with_reducible rfl) | with_reducible rfl
          try simp only [Act.put, List.setIfInBounds_toArray, List.set_cons_zero, List.set_cons_succ]
          refine wpAnyH_take (i := 3) (oi := ⟨some 61, _, _, _, _, _⟩) (v := ?_) rfl (by kernel_rfl) (by kernel_rfl) (by kernel_rfl) (fun _ _ _ h => h) (Or.inl ⟨by rfl, ?_⟩) hHeld ?_
          rotate_left
          · intro w hSw
            (try dsimp only at hSw)
            first | (go_simp; done) | (go_simp; with_reducible rfl) | with_reducible rfl
          try simp only [Act.put, List.setIfInBounds_toArray, List.set_cons_zero, List.set_cons_succ]
          refine wpAnyH_ready (rs := [4]) (by kernel_rfl) (by simp) ?_
          refine AllReadyH.cons (o := ⟨none, _, _, _, _, _⟩) rfl (fun K hK => ?_) AllReadyH.nil
          go_simp
          refine hK.out _ _ ?_ (fun hHeld => ?_)
          · exact ⟨keep2 e6 (by omega), keep2 e0 (by omega), keep2 e1 (by omega)⟩
          clear hK K
          try simp only [Act.put, List.setIfInBounds_toArray, List.set_cons_zero, List.set_cons_succ]
          refine wpAnyH_take (i := 5) (oi := ⟨some 62, _, _, _, _, _⟩) (v := ?_) rfl (by kernel_rfl) (by kernel_rfl) (by kernel_rfl) (fun _ _ _ h => h) (Or.inl ⟨by rfl, ?_⟩) hHeld ?_
          rotate_left
          · intro w hSw
            (try dsimp only at hSw)
            first | (go_simp; done) | (go_simp; with_reducible rfl) | with_reducible rfl
          try simp only [Act.put, List.setIfInBounds_toArray, List.set_cons_zero, List.set_cons_succ]
          refine wpAnyH_ready (rs := [6]) (by kernel_rfl) (by simp) ?_
          refine AllReadyH.cons (o := ⟨none, _, _, _, _, _⟩) rfl (fun K hK => ?_) AllReadyH.nil
          go_simp
          refine hK.out _ _ ?_ (fun hHeld => ?_)
          · exact ⟨(World.cell?_setCell_other _ _ _ _ (by simp)).trans (keep2 e6 (by omega)), (World.cell?_setCell_other _ _ _ _ (by simp <;> omega)).trans (keep2 e0 (by omega)), (World.cell?_setCell_other _ _ _ _ (by simp <;> omega)).trans (keep2 e1 (by omega))⟩
          clear hK K
          try simp only [Act.put, List.setIfInBounds_toArray, List.set_cons_zero, List.set_cons_succ]
          refine wpAnyH_done (by kernel_rfl) ?_ _
          refine only_end ?_
          gi_wp2
          refine ⟨?_, ?_, ⟨⟨A', c', t', is.set (nf + 1 + i) z, ?_, S9, ?_, by simpa using hil, hsm.set _ hz0 (by omega), hwf'⟩, ?_⟩⟩
          · exact f8.trans (((((KeepsOthers.setCell _ _ _).trans (KeepsOthers.setCell _ _ _)).trans (KeepsOthers.setCell _ _ _)).trans (KeepsOthers.drew _)).from _)
          · exact q8.trans (((((KS.set (by simp) _).trans (KS.set (by simp) _)).trans (KS.set (by simp) _))).drew)
          · rw [HF.out, HFO.out]
            exact HST.out
          · rw [HPL.out]
            omega
          · simpa using hsW8
        · rw [if_neg her] at HST
          have hq : (er != 0) = true := by simp [her]
          have d0 := C8.r8.cell 0
          have d1 := C8.r8.cell 1
          have d2 := C8.r9.cell 0
          have d3 := C8.r10.cell 0
          have g0 := C8.r8.frozen 0
          have g1 := C8.r8.frozen 1
          have g2 := C8.r9.frozen 0
          have g3 := C8.r10.frozen 0
          simp only [List.getElem?_toArray, List.getElem?_cons_zero, List.getElem?_cons_succ] at d0 d1 d2 d3
          gi_wp2
          refine ⟨?_, rfl, er, ?_, ?_, ?_, ?_, ?_⟩
          · exact f8.trans ((((KeepsOthers.setCell _ _ _).trans (KeepsOthers.setCell _ _ _)).trans ((KeepsOthers.setCell _ _ _).trans (KeepsOthers.setCell _ _ _))).from _)
          · rw [HF.out, HFO.out]
            exact HST.out
          · have := (C8.r8.put 0 (.int .i64 0)).put 1 (.slice none 0 0)
            exact (Blk.far (by simpa using this) (by simp) _).far (by simp) _
          · have := ((C8.r9.far (p := ⟨w.heap.size + 1 + 1, 0, none⟩) (by simp) (.int .i64 0)).far (p := ⟨w.heap.size + 1 + 1, 1, none⟩) (by simp) (.slice none 0 0)).put 0 (.int .i64 0)
            exact Blk.far (by simpa using this) (by simp) _
          · have := (((C8.r10.far (p := ⟨w.heap.size + 1 + 1, 0, none⟩) (by simp <;> omega) (.int .i64 0)).far (p := ⟨w.heap.size + 1 + 1, 1, none⟩) (by simp <;> omega) (.slice none 0 0)).far (p := ⟨w.heap.size + 1 + 1 + 1, 0, none⟩) (by simp <;> omega) (.int .i64 0)).put 0 (.int .i64 er)
            simpa using this
          · exact (((C8.low.setCell (by simp <;> omega) _).setCell (by simp <;> omega) _).setCell (by simp <;> omega) _).setCell (by simp <;> omega) _
    case done =>
      rintro D ys W hD rfl ⟨⟨A, c, t, is, hfo, C, htl, hil, hsm, hwf⟩, hsW⟩ hK'
      have HS := Lib.hid (Cm.copyS_ok HRT.out HRF.out HLL.out HBY.out HALL.out hfo)
      clear hfo
      have k0 := C.bt.cell 0
      have k1 := C.bt.cell 1
      have k7 := C.bf.cell 0
      have k6 := C.bx.cell 0
      have d0 := C.r8.cell 0
      have d1 := C.r8.cell 1
      have d2 := C.r9.cell 0
      have d3 := C.r10.cell 0
      have g0 := C.r8.frozen 0
      have g1 := C.r8.frozen 1
      have g2 := C.r9.frozen 0
      have g3 := C.r10.frozen 0
      simp only [List.getElem?_toArray, List.getElem?_cons_zero, List.getElem?_cons_succ] at k0 k1 k7 k6 d0 d1 d2 d3
      have HIM : Hid (Calls Try.prog 39 #[.int .i64 l, .pointer (some ⟨w.heap.size + 1 + 1 + 1 + 1 + 1 + 1, 0, none⟩)] W.drew fun e w' => e = .returned (.int .i64 (Cm.isL is l)) ∧ ∃ m, w' = W.drew.drewN m) := image_any (w.heap.size + 1 + 1 + 1 + 1 + 1 + 1) (w.heap.size + 1 + 1 + 1 + 1 + 1) (1 + (nf + fg.length)) is l W.drew k6 C.drew.bi hil (by omega) (by omega) (by unfold Cm.vr; omega) hsm
      generalize Cm.isL is l = z at *
      go_upto_region 12 with fail
      refine wp_region_noPanic (wp_region_held_drew (S := fun V => V.cell? ⟨w.heap.size, 0, none⟩ = some (.int .i64 nt) ∧ V.cell? ⟨w.heap.size, 1, none⟩ = some (.slice A t.length c) ∧ V.cell? ⟨w.heap.size + 1 + 1 + 1 + 1 + 1 + 1 + 1, 0, none⟩ = some (.func (.func 39) #[] #[.pointer (some ⟨w.heap.size + 1 + 1 + 1 + 1 + 1 + 1, 0, none⟩)])) (by kernel_rfl) ?hS12 (fun hHeld => ?h12))
      case hS12 => exact ⟨k0, k1, k7⟩
      refine wpAnyH_take (i := 0) (oi := ⟨some 63, _, _, _, _, _⟩) (v := ?_) rfl (by kernel_rfl) (by kernel_rfl) (by kernel_rfl) (fun _ _ _ h => h) (Or.inl ⟨by rfl, ?_⟩) hHeld ?_
      rotate_left
      · intro w hSw
        (try dsimp only at hSw)
        first | (go_simp; done) | (go_simp; with_reducible rfl) | with_reducible rfl
      try simp only [Act.put, List.setIfInBounds_toArray, List.set_cons_zero, List.set_cons_succ]
      refine wpAnyH_take (i := 1) (oi := ⟨some 64, _, _, _, _, _⟩) (v := ?_) rfl (by kernel_rfl) (by kernel_rfl) (by kernel_rfl) (fun _ _ _ h => h) (Or.inl ⟨by rfl, ?_⟩) hHeld ?_
      rotate_left
      · intro w hSw
        (try dsimp only at hSw)
        first | (go_simp; done) | (go_simp; with_reducible rfl) | with_reducible rfl
      try simp only [Act.put, List.setIfInBounds_toArray, List.set_cons_zero, List.set_cons_succ]
      refine wpAnyH_take (i := 2) (oi := ⟨some 65, _, _, _, _, _⟩) (v := ?_) rfl (by kernel_rfl) (by kernel_rfl) (by kernel_rfl) (fun _ _ _ h => h) (Or.inl ⟨by rfl, ?_⟩) hHeld ?_
      rotate_left
      · intro w hSw
        (try dsimp only at hSw)
        first | (go_simp; done) | (go_simp; with_reducible rfl) | with_reducible rfl
      try simp only [Act.put, List.setIfInBounds_toArray, List.set_cons_zero, List.set_cons_succ]
      refine wpAnyH_ready (rs := [3]) (by kernel_rfl) (by simp) ?_
      refine AllReadyH.cons (o := ⟨some 66, _, _, _, _, _⟩) rfl (fun K hK => ?_) AllReadyH.nil
      go_simp
      (go_at_call 39; (with_reducible refine HIM.out.mono ?_); rintro e wn ⟨rfl, m, rfl⟩)
      refine hK.out _ _ ?_ (fun hHeld => ?_)
      · exact ⟨k0, k1, k7⟩
      clear hK K
      try simp only [Act.put, List.setIfInBounds_toArray, List.set_cons_zero, List.set_cons_succ]
      refine wpAnyH_ready (rs := [4]) (by kernel_rfl) (by simp) ?_
      refine AllReadyH.cons (o := ⟨none, _, _, _, _, _⟩) rfl (fun K hK => ?_) AllReadyH.nil
      go_simp
      refine hK.out _ _ ?_ (fun hHeld => ?_)
      · exact ⟨keep2 k0 (by omega), keep2 k1 (by omega), keep2 k7 (by omega)⟩
      clear hK K
      try simp only [Act.put, List.setIfInBounds_toArray, List.set_cons_zero, List.set_cons_succ]
      refine wpAnyH_ready (rs := [5]) (by kernel_rfl) (by simp) ?_
      refine AllReadyH.cons (o := ⟨none, _, _, _, _, _⟩) rfl (fun K hK => ?_) AllReadyH.nil
      go_simp
      refine hK.out _ _ ?_ (fun hHeld => ?_)
      · exact ⟨(World.cell?_setCell_other _ _ _ _ (by simp <;> omega)).trans (keep2 k0 (by omega)), (World.cell?_setCell_other _ _ _ _ (by simp <;> omega)).trans (keep2 k1 (by omega)), (World.cell?_setCell_other _ _ _ _ (by simp <;> omega)).trans (keep2 k7 (by omega))⟩
      clear hK K
      try simp only [Act.put, List.setIfInBounds_toArray, List.set_cons_zero, List.set_cons_succ]
      refine wpAnyH_ready (rs := [6]) (by kernel_rfl) (by simp) ?_
      refine AllReadyH.cons (o := ⟨none, _, _, _, _, _⟩) rfl (fun K hK => ?_) AllReadyH.nil
      go_simp
      refine hK.out _ _ ?_ (fun hHeld => ?_)
      · exact ⟨(World.cell?_setCell_other _ _ _ _ (by simp <;> omega)).trans ((World.cell?_setCell_other _ _ _ _ (by simp <;> omega)).trans (keep2 k0 (by omega))), (World.cell?_setCell_other _ _ _ _ (by simp <;> omega)).trans ((World.cell?_setCell_other _ _ _ _ (by simp <;> omega)).trans (keep2 k1 (by omega))), (World.cell?_setCell_other _ _ _ _ (by simp <;> omega)).trans ((World.cell?_setCell_other _ _ _ _ (by simp <;> omega)).trans (keep2 k7 (by omega)))⟩
      clear hK K
      try simp only [Act.put, List.setIfInBounds_toArray, List.set_cons_zero, List.set_cons_succ]
      refine wpAnyH_done (by kernel_rfl) ?_ _
      refine NoPanic.normal ?_
      have B8 : Blk (((((W.drewN (1 + m)).setCell ⟨w.heap.size + 1 + 1, 0, none⟩ (.int .i64 nt)).setCell ⟨w.heap.size + 1 + 1, 1, none⟩ (.slice A t.length c)).setCell ⟨w.heap.size + 1 + 1 + 1, 0, none⟩ (.int .i64 z)).setCell ⟨w.heap.size + 1 + 1 + 1 + 1, 0, none⟩ (.int .i64 0)) (w.heap.size + 1 + 1) 26 #[.int .i64 nt, .slice A t.length c] := by
        have := ((C.r8.drewN (1 + m)).put 0 (.int .i64 nt)).put 1 (.slice A t.length c)
        exact (Blk.far (by simpa using this) (by simp) _).far (by simp) _
      have B9 : Blk (((((W.drewN (1 + m)).setCell ⟨w.heap.size + 1 + 1, 0, none⟩ (.int .i64 nt)).setCell ⟨w.heap.size + 1 + 1, 1, none⟩ (.slice A t.length c)).setCell ⟨w.heap.size + 1 + 1 + 1, 0, none⟩ (.int .i64 z)).setCell ⟨w.heap.size + 1 + 1 + 1 + 1, 0, none⟩ (.int .i64 0)) (w.heap.size + 1 + 1 + 1) 3 #[.int .i64 z] := by
        have := (((C.r9.drewN (1 + m)).far (p := ⟨w.heap.size + 1 + 1, 0, none⟩) (by simp) (.int .i64 nt)).far (p := ⟨w.heap.size + 1 + 1, 1, none⟩) (by simp) (.slice A t.length c)).put 0 (.int .i64 z)
        exact Blk.far (by simpa using this) (by simp) _
      have B10 : Blk (((((W.drewN (1 + m)).setCell ⟨w.heap.size + 1 + 1, 0, none⟩ (.int .i64 nt)).setCell ⟨w.heap.size + 1 + 1, 1, none⟩ (.slice A t.length c)).setCell ⟨w.heap.size + 1 + 1 + 1, 0, none⟩ (.int .i64 z)).setCell ⟨w.heap.size + 1 + 1 + 1 + 1, 0, none⟩ (.int .i64 0)) (w.heap.size + 1 + 1 + 1 + 1) 41 #[.int .i64 0] := by
        have := ((((C.r10.drewN (1 + m)).far (p := ⟨w.heap.size + 1 + 1, 0, none⟩) (by simp <;> omega) (.int .i64 nt)).far (p := ⟨w.heap.size + 1 + 1, 1, none⟩) (by simp <;> omega) (.slice A t.length c)).far (p := ⟨w.heap.size + 1 + 1 + 1, 0, none⟩) (by simp <;> omega) (.int .i64 z)).put 0 (.int .i64 0)
        simpa using this
      have lo9 : Below w.heap.size w (((((W.drewN (1 + m)).setCell ⟨w.heap.size + 1 + 1, 0, none⟩ (.int .i64 nt)).setCell ⟨w.heap.size + 1 + 1, 1, none⟩ (.slice A t.length c)).setCell ⟨w.heap.size + 1 + 1 + 1, 0, none⟩ (.int .i64 z)).setCell ⟨w.heap.size + 1 + 1 + 1 + 1, 0, none⟩ (.int .i64 0)) := ((((below_drewN C.low (1 + m)).setCell (by simp <;> omega) _).setCell (by simp <;> omega) _).setCell (by simp <;> omega) _).setCell (by simp <;> omega) _
      have hG9 : Gr (((((W.drewN (1 + m)).setCell ⟨w.heap.size + 1 + 1, 0, none⟩ (.int .i64 nt)).setCell ⟨w.heap.size + 1 + 1, 1, none⟩ (.slice A t.length c)).setCell ⟨w.heap.size + 1 + 1 + 1, 0, none⟩ (.int .i64 z)).setCell ⟨w.heap.size + 1 + 1 + 1 + 1, 0, none⟩ (.int .i64 0)) (((((W.drewN (1 + m)).setCell ⟨w.heap.size + 1 + 1, 0, none⟩ (.int .i64 nt)).setCell ⟨w.heap.size + 1 + 1, 1, none⟩ (.slice A t.length c)).setCell ⟨w.heap.size + 1 + 1 + 1, 0, none⟩ (.int .i64 z)).setCell ⟨w.heap.size + 1 + 1 + 1 + 1, 0, none⟩ (.int .i64 0)).heap.size A t := by
        have hg0 : Gr (W.drewN (1 + m)) W.heap.size A t := C.gr
        have := (((hg0.set (p := ⟨w.heap.size + 1 + 1, 0, none⟩) (C.sep.ne (k := w.heap.size + 1 + 1) (Nat.zero_le _) (by omega)) (.int .i64 nt)).set (p := ⟨w.heap.size + 1 + 1, 1, none⟩) (C.sep.ne (k := w.heap.size + 1 + 1) (Nat.zero_le _) (by omega)) (.slice A t.length c)).set (p := ⟨w.heap.size + 1 + 1 + 1, 0, none⟩) (C.sep.ne (k := w.heap.size + 1 + 1 + 1) (Nat.zero_le _) (by omega)) (.int .i64 z)).set (p := ⟨w.heap.size + 1 + 1 + 1 + 1, 0, none⟩) (C.sep.ne (k := w.heap.size + 1 + 1 + 1 + 1) (Nat.zero_le _) (by omega)) (.int .i64 0)
        exact this.more (by simp)
      have hK9 : (((((W.drewN (1 + m)).setCell ⟨w.heap.size + 1 + 1, 0, none⟩ (.int .i64 nt)).setCell ⟨w.heap.size + 1 + 1, 1, none⟩ (.slice A t.length c)).setCell ⟨w.heap.size + 1 + 1 + 1, 0, none⟩ (.int .i64 z)).setCell ⟨w.heap.size + 1 + 1 + 1 + 1, 0, none⟩ (.int .i64 0)).heap[D]? = some (.deferred (some [])) := by
        have hk0 : (W.drewN (1 + m)).heap[D]? = some (.deferred (some [])) := hK'
        exact ((((KeepsOthers.setCell _ _ _).trans (KeepsOthers.setCell _ _ _)).trans (KeepsOthers.setCell _ _ _)).trans (KeepsOthers.setCell _ _ _)).same D _ hk0 rfl
      have hsep := C.sep
      clear hHeld HIM k0 k1 k7 k6 d0 d1 d2 d3 g0 g1 g2 g3 C hK' hsm hil htl
      generalize (((((W.drewN (1 + m)).setCell ⟨w.heap.size + 1 + 1, 0, none⟩ (.int .i64 nt)).setCell ⟨w.heap.size + 1 + 1, 1, none⟩ (.slice A t.length c)).setCell ⟨w.heap.size + 1 + 1 + 1, 0, none⟩ (.int .i64 z)).setCell ⟨w.heap.size + 1 + 1 + 1 + 1, 0, none⟩ (.int .i64 0)) = W9 at *
      go_wp2_with fail
      refine ⟨by simp, .inl ⟨_, _, rfl, run_takeDeferred hK9, ?_⟩⟩
      have hgp := grownBy_putObj' W9 D (.deferred none)
      have hgr : ∀ r, some D = some r → w.heap.size ≤ r ∧ ∃ o : Obj, W9.heap[r]? = some o ∧ o.isCells = false := fun r e => by cases e; exact ⟨by omega, _, hK9, rfl⟩
      have c0 := (B8.own hgp hgr).cell 0
      have c1 := (B8.own hgp hgr).cell 1
      have c2 := (B9.own hgp hgr).cell 0
      have c3 := (B10.own hgp hgr).cell 0
      simp only [List.getElem?_toArray, List.getElem?_cons_zero, List.getElem?_cons_succ] at c0 c1 c2 c3
      refine ⟨.tuple #[.agg #[.int .i64 nt, .slice A t.length c], .int .i64 z, .int .i64 0], ?_, ?_⟩
      · simp [results, Try.f31, go_sem, c0, c1, c2, c3]
      · rw [HS.out]
        exact ⟨A, c, rfl, hG9.own hgp hgr, hsep.mono (Nat.le_refl _) (by omega), below_own lo9 (Nat.le_refl _) (Nat.le_refl _) hgp hgr⟩
    case stop =>
      rintro D c' pre W hD ⟨k, hk, rfl⟩ ⟨rfl, er, hfe, b8, b9, b10, lo⟩ hK'
      have HS := Cm.copyS_err HRT.out HRF.out HLL.out HBY.out HALL.out hk hfe
      go_wp2_with fail
      refine ⟨by simp, .inl ⟨_, _, rfl, run_takeDeferred hK', ?_⟩⟩
      have hgp := grownBy_putObj' W D (.deferred none)
      have hgr : ∀ r, some D = some r → w.heap.size ≤ r ∧ ∃ o : Obj, W.heap[r]? = some o ∧ o.isCells = false := fun r e => by cases e; exact ⟨by omega, _, hK', rfl⟩
      have c0 := (b8.own hgp hgr).cell 0
      have c1 := (b8.own hgp hgr).cell 1
      have c2 := (b9.own hgp hgr).cell 0
      have c3 := (b10.own hgp hgr).cell 0
      simp only [List.getElem?_toArray, List.getElem?_cons_zero, List.getElem?_cons_succ] at c0 c1 c2 c3
      refine ⟨.tuple #[.agg #[.int .i64 0, .slice none 0 0], .int .i64 0, .int .i64 er], ?_, ?_⟩
      · simp [results, Try.f31, go_sem, c0, c1, c2, c3]
      · rw [HS]
        exact ⟨none, 0, rfl, fun k hk => by simp [Gm.bad] at hk, Sep.none_, below_own lo (Nat.le_refl _) (Nat.le_refl _) hgp hgr⟩
end Go.Proofs.Ytjjdgiondpnpcaa
