/-
  1 texts in one. No statement of the seat is proved here.
-/
import Derived.Test.YtlenmkhmkommcaaGreatJ29

/-
  The contract of layer 16's reference's Write. Conditions: epochs up to 2^40; a disk and a book that are not too full.
-/
namespace Go.Proofs.YtlenmkhmkommcaaGreat
open Go.RowKit
set_option linter.unusedVariables false

/-- A disk, a sealer and a value handed back. -/
theorem resDST {fn : Func} {p p2 t : Tmp} {ty ty2 : TypeId} (h : fn.results = #[.cell p ty, .cell p2 ty2, .tmp t]) (tmps : Array Value) (w : World) (g : Nat) (cs : Array Value) (hp : tmps.getD p undef = .pointer (some ⟨g, 0, none⟩)) (hl : (loadVar ty ⟨g, 0, none⟩).run Tryz.prog w = .ok (.agg cs) w) (g2 : Nat) (cs2 : Array Value) (hp2 : tmps.getD p2 undef = .pointer (some ⟨g2, 0, none⟩)) (hl2 : (loadVar ty2 ⟨g2, 0, none⟩).run Tryz.prog w = .ok (.agg cs2) w) (x : Value) (hx : tmps.getD t undef = x) : (results fn tmps).run Tryz.prog w = .ok (.tuple #[.agg cs, .agg cs2, x]) w := by
  have hp' : tmps[p]?.getD undef = .pointer (some ⟨g, 0, none⟩) := by simpa using hp
  have hp2' : tmps[p2]?.getD undef = .pointer (some ⟨g2, 0, none⟩) := by simpa using hp2
  have hx' : tmps[t]?.getD undef = x := by simpa using hx
  simp [results, h, hp', hp2', hx', asAddr, hl, hl2]
theorem Hid.mk' {p : Prop} (h : p) : Hid p := h
/-- While a disk and a sealer are handed back. -/
def RetS (W : World) (xR xT : Nat) (u : World) : Prop := Kp (fun j => j = xR ∨ j = xT) W u ∧ (∃ vs, vs.length = 10 ∧ Blk u xR vs 42) ∧ ∃ us, us.length = 6 ∧ Blk u xT us 54
def zS6 : List Value := [.bool false, .slice none 0 0, .slice none 0 0, .int .u64 0, .bool false, .bool false]
theorem RetS.start {W : World} {xR xT : Nat} (h1 : Blk W xR z40 42) (h2 : Blk W xT zS6 54) : RetS W xR xT W.drew := ⟨Kp.of_below (Below.refl _ W).drew, ⟨_, rfl, h1⟩, _, rfl, h2⟩
/-- Behind the sealing: the sealer in a new variable, what comes of it. -/
def MidW (A : Nat → Prop) (wr wx : World) (g : Nat) (S : SeaS) (d : Du) (sa : Option Addr) (sn sc : Nat) (Z : List UInt8) : Prop := Blk wx g (rsC S d) 54 ∧ RS A wx S d ∧ BA A wx sa sn sc Z ∧ Below wr.heap.size wr wx ∧ wr.heap.size ≤ g
/-- What Write answers. -/
def WrtR (A : Nat → Prop) (R : DskS × Int) (S' : SeaS) (w : World) (e : Ending) (w' : World) : Prop := ∃ q' d', e = .returned (.tuple #[dv R.1 q', rsV S' d', .int .i64 R.2]) ∧ RD A w' R.1 q' ∧ RS A w' S' d' ∧ Below w.heap.size w w'
/-- The length of a slice. -/
def lenV16 : Value → Nat
  | .slice _ n _ => n
  | _ => 0
/-- In the loop over the images: both, and all that is still wanted. -/
structure WrI (A : Nat → Prop) (w wr : World) (xX xR xT g : Nat) (D : DskS) (q : Quad) (S : SeaS) (d : Du) (sa : Option Addr) (sn sc : Nat) (Z : List UInt8) (a : Option Addr) (n c : Nat) (l : List Chg) : Prop where
  rd : RD A wr D q
  x : Blk wr xX (dc D q) 42
  r : Blk wr xR z40 42
  t : Blk wr xT zS6 54
  b : Blk wr g (rsC S d) 54
  rs : RS A wr S d
  z : BA A wr sa sn sc Z
  im : Imgs A wr a n c l
  bel : Below w.heap.size w wr
theorem WrI.grow {A : Nat → Prop} {w wr w' : World} {xX xR xT g : Nat} {D : DskS} {q : Quad} {S : SeaS} {d : Du} {sa : Option Addr} {sn sc : Nat} {Z : List UInt8} {a : Option Addr} {n c : Nat} {l : List Chg} (I : WrI A w wr xX xR xT g D q S d sa sn sc Z a n c l) (h : Below wr.heap.size wr w') : WrI A w w' xX xR xT g D q S d sa sn sc Z a n c l :=
  ⟨I.rd.below h, I.x.below h I.x.lt, I.r.below h I.r.lt, I.t.below h I.t.lt, I.b.below h I.b.lt, I.rs.grow h, I.z.below' h, I.im.grow h, I.bel.trans (h.mono I.bel.size)⟩
theorem WrI.next {A : Nat → Prop} {w wr wc w8 : World} {xX xR xT g gy : Nat} {D D2 : DskS} {q q2 : Quad} {S : SeaS} {d : Du} {sa : Option Addr} {sn sc : Nat} {Z : List UInt8} {a : Option Addr} {n c : Nat} {l : List Chg} (I : WrI A w wr xX xR xT g D q S d sa sn sc Z a n c l) (M : MidA A wr wc gy D2 q2) (x8 : Blk w8 xX (dc D2 q2) 42) (k8 : Kp (fun j => j = xX) wc w8) (hA : ∀ j, A j → j ≠ xX) (hne : xR ≠ xX ∧ xT ≠ xX ∧ g ≠ xX ∧ w.heap.size ≤ xX) : WrI A w w8 xX xR xT g D2 q2 S d sa sn sc Z a n c l := by
  have J := I.grow M.2.2.1
  exact ⟨M.2.1.kp k8 fun j hj e => hA j hj e, x8, k8.blk J.r hne.1, k8.blk J.t hne.2.1, k8.blk J.b hne.2.2.1, J.rs.kp k8 fun j hj e => hA j hj e, J.z.kp k8 fun j hj e => hA j hj e, J.im.kp k8 fun j hj e => hA j hj e, Kp.new J.bel k8 fun j e => by omega⟩
theorem logL_drop (s : List UInt8) {l : List Chg} {k : Nat} {x : Chg} (hx : l[k]? = some x) : (logL s l).drop k = ((k : Int) + 1, x.2) :: (logL s l).drop (k + 1) := by
  have hk : k < l.length := (List.getElem?_eq_some_iff.1 hx).1
  have h1 : (logL s l)[k]? = some ((k : Int) + 1, x.2) := by
    unfold logL
    rw [List.getElem?_append_left (by rw [List.length_mapIdx]; exact hk), List.getElem?_mapIdx, hx]
    rfl
  obtain ⟨hl, e⟩ := List.getElem?_eq_some_iff.1 h1
  rw [List.drop_eq_getElem_cons hl, e]
theorem logL_last (s : List UInt8) (l : List Chg) : (logL s l).drop l.length = [(0, pad s)] := by
  unfold logL
  rw [List.drop_append_of_le_length (by rw [List.length_mapIdx]; exact Nat.le_refl _), List.drop_of_length_le (by rw [List.length_mapIdx]; exact Nat.le_refl _), List.nil_append]

set_option maxRecDepth 100000 in
set_option maxHeartbeats 16000000 in
theorem rWrite16 (w : World) {A : Nat → Prop} (hA : ∀ j, w.heap.size ≤ j → A j) {D : DskS} {q : Quad} (h : RD A w D q) {S : SeaS} {d : Du} (hs : RS A w S d) {mm : Nat} (hf : D.fit mm) (hm : mm ≤ 3900) (hz : S.book.length ≤ 1000) (hq : S.count ≤ 1000000)
    {k : List UInt8} {ak : Option Addr} {ck : Nat} (hk : BA A w ak 32 ck k) (e : Int) (he : -9223372036854775808 ≤ e ∧ e ≤ 1099511627776) {a : Option Addr} {n c : Nat} {l : List Chg} (hl : Imgs A w a n c l) (hid : Hid (S.ideal = true) := by first | assumption | (show _ = _; rfl)) :
    Calls Tryz.prog 15 #[dv D q, rsV S d, .slice ak 32 ck, .int .i64 e, .slice a n c] w (WrtR A (wrtD D S k e l) (wrtS S k e l) w) := by
  have HAA : Hid (∀ j, w.heap.size ≤ j → A j) := hA
  have HR : Hid (RD A w D q) := h
  have HRS : Hid (RS A w S d) := hs
  have HF : Hid (D.fit mm) := hf
  have HI : Hid (Imgs A w a n c l) := hl
  have HK : Hid (BA A w ak 32 ck k) := hk
  have HKL : Hid (k.length = 32) := hk.1.len
  have HLN : Hid (l.length = n) := Sl.len hl
  have HZ : Hid (S.book.length ≤ 1000) := hz
  have HQ : Hid (S.count ≤ 1000000) := hq
  have hmax := Sl.cap hl
  obtain ⟨P, hP⟩ : ∃ P, P = WrtR A (wrtD D S k e l) (wrtS S k e l) w := ⟨_, rfl⟩
  have HP : Hid (P = WrtR A (wrtD D S k e l) (wrtS S k e l) w) := hP
  rw [← hP]
  obtain ⟨cc, hcc⟩ : ∃ cc, cc = chkE e l := ⟨_, rfl⟩
  have HCC : Hid (cc = chkE e l) := hcc
  have CC : Hid (∀ u, Below w.heap.size w u → Calls Tryz.prog 36 #[.int .i64 e, .slice a n c] u fun x w' => x = .returned (.int .i64 cc) ∧ Below u.heap.size u w') := fun u hu => by rw [hcc]; exact rChk16 u e (hl.grow hu)
  clear h hs hf hl hA hP hk hz hq hcc
  have BD0 : Hid (Blk ((((w.alloc (.cells #[.int .i64 (D.p.steps : Int), .int .i64 D.p.fuse, .bool D.p.done, .bool D.p.down, .int .i64 D.n, .slice q.sa q.sn q.sc, .slice q.la q.ln q.lc, .slice q.ta q.tn q.tc, .slice q.pa q.pn q.pq, .int .i64 (D.steps : Int)] 42)).alloc (.cells #[.bool S.ideal, .slice d.ba d.bn d.bc, .slice d.ca d.cn d.cc, .int .u64 (S.count : Int), .bool S.reused, .bool S.forged] 54)).alloc (.cells #[.int .i64 0, .int .i64 0, .bool false, .bool false, .int .i64 0, .slice none 0 0, .slice none 0 0, .slice none 0 0, .slice none 0 0, .int .i64 0] 42)).alloc (.cells #[.bool false, .slice none 0 0, .slice none 0 0, .int .u64 0, .bool false, .bool false] 54)) w.heap.size (dc D q) 42) := by
    have := (((Blk.new w #[.int .i64 (D.p.steps : Int), .int .i64 D.p.fuse, .bool D.p.done, .bool D.p.down, .int .i64 D.n, .slice q.sa q.sn q.sc, .slice q.la q.ln q.lc, .slice q.ta q.tn q.tc, .slice q.pa q.pn q.pq, .int .i64 (D.steps : Int)] 42).old (.cells #[.bool S.ideal, .slice d.ba d.bn d.bc, .slice d.ca d.cn d.cc, .int .u64 (S.count : Int), .bool S.reused, .bool S.forged] 54)).old (.cells #[.int .i64 0, .int .i64 0, .bool false, .bool false, .int .i64 0, .slice none 0 0, .slice none 0 0, .slice none 0 0, .slice none 0 0, .int .i64 0] 42)).old (.cells #[.bool false, .slice none 0 0, .slice none 0 0, .int .u64 0, .bool false, .bool false] 54)
    exact this
  have BS0 : Hid (Blk ((((w.alloc (.cells #[.int .i64 (D.p.steps : Int), .int .i64 D.p.fuse, .bool D.p.done, .bool D.p.down, .int .i64 D.n, .slice q.sa q.sn q.sc, .slice q.la q.ln q.lc, .slice q.ta q.tn q.tc, .slice q.pa q.pn q.pq, .int .i64 (D.steps : Int)] 42)).alloc (.cells #[.bool S.ideal, .slice d.ba d.bn d.bc, .slice d.ca d.cn d.cc, .int .u64 (S.count : Int), .bool S.reused, .bool S.forged] 54)).alloc (.cells #[.int .i64 0, .int .i64 0, .bool false, .bool false, .int .i64 0, .slice none 0 0, .slice none 0 0, .slice none 0 0, .slice none 0 0, .int .i64 0] 42)).alloc (.cells #[.bool false, .slice none 0 0, .slice none 0 0, .int .u64 0, .bool false, .bool false] 54)) (w.heap.size + 1) (rsC S d) 54) := by
    have := ((Blk.new (w.alloc (.cells #[.int .i64 (D.p.steps : Int), .int .i64 D.p.fuse, .bool D.p.done, .bool D.p.down, .int .i64 D.n, .slice q.sa q.sn q.sc, .slice q.la q.ln q.lc, .slice q.ta q.tn q.tc, .slice q.pa q.pn q.pq, .int .i64 (D.steps : Int)] 42)) #[.bool S.ideal, .slice d.ba d.bn d.bc, .slice d.ca d.cn d.cc, .int .u64 (S.count : Int), .bool S.reused, .bool S.forged] 54).old (.cells #[.int .i64 0, .int .i64 0, .bool false, .bool false, .int .i64 0, .slice none 0 0, .slice none 0 0, .slice none 0 0, .slice none 0 0, .int .i64 0] 42)).old (.cells #[.bool false, .slice none 0 0, .slice none 0 0, .int .u64 0, .bool false, .bool false] 54)
    rwa [show (w.alloc (.cells #[.int .i64 (D.p.steps : Int), .int .i64 D.p.fuse, .bool D.p.done, .bool D.p.down, .int .i64 D.n, .slice q.sa q.sn q.sc, .slice q.la q.ln q.lc, .slice q.ta q.tn q.tc, .slice q.pa q.pn q.pq, .int .i64 (D.steps : Int)] 42)).heap.size = w.heap.size + 1 from by simp] at this
  have BR0 : Hid (Blk ((((w.alloc (.cells #[.int .i64 (D.p.steps : Int), .int .i64 D.p.fuse, .bool D.p.done, .bool D.p.down, .int .i64 D.n, .slice q.sa q.sn q.sc, .slice q.la q.ln q.lc, .slice q.ta q.tn q.tc, .slice q.pa q.pn q.pq, .int .i64 (D.steps : Int)] 42)).alloc (.cells #[.bool S.ideal, .slice d.ba d.bn d.bc, .slice d.ca d.cn d.cc, .int .u64 (S.count : Int), .bool S.reused, .bool S.forged] 54)).alloc (.cells #[.int .i64 0, .int .i64 0, .bool false, .bool false, .int .i64 0, .slice none 0 0, .slice none 0 0, .slice none 0 0, .slice none 0 0, .int .i64 0] 42)).alloc (.cells #[.bool false, .slice none 0 0, .slice none 0 0, .int .u64 0, .bool false, .bool false] 54)) (w.heap.size + 2) z40 42) := by
    have := (Blk.new ((w.alloc (.cells #[.int .i64 (D.p.steps : Int), .int .i64 D.p.fuse, .bool D.p.done, .bool D.p.down, .int .i64 D.n, .slice q.sa q.sn q.sc, .slice q.la q.ln q.lc, .slice q.ta q.tn q.tc, .slice q.pa q.pn q.pq, .int .i64 (D.steps : Int)] 42)).alloc (.cells #[.bool S.ideal, .slice d.ba d.bn d.bc, .slice d.ca d.cn d.cc, .int .u64 (S.count : Int), .bool S.reused, .bool S.forged] 54)) #[.int .i64 0, .int .i64 0, .bool false, .bool false, .int .i64 0, .slice none 0 0, .slice none 0 0, .slice none 0 0, .slice none 0 0, .int .i64 0] 42).old (.cells #[.bool false, .slice none 0 0, .slice none 0 0, .int .u64 0, .bool false, .bool false] 54)
    rwa [size2] at this
  have BT0 : Hid (Blk ((((w.alloc (.cells #[.int .i64 (D.p.steps : Int), .int .i64 D.p.fuse, .bool D.p.done, .bool D.p.down, .int .i64 D.n, .slice q.sa q.sn q.sc, .slice q.la q.ln q.lc, .slice q.ta q.tn q.tc, .slice q.pa q.pn q.pq, .int .i64 (D.steps : Int)] 42)).alloc (.cells #[.bool S.ideal, .slice d.ba d.bn d.bc, .slice d.ca d.cn d.cc, .int .u64 (S.count : Int), .bool S.reused, .bool S.forged] 54)).alloc (.cells #[.int .i64 0, .int .i64 0, .bool false, .bool false, .int .i64 0, .slice none 0 0, .slice none 0 0, .slice none 0 0, .slice none 0 0, .int .i64 0] 42)).alloc (.cells #[.bool false, .slice none 0 0, .slice none 0 0, .int .u64 0, .bool false, .bool false] 54)) (w.heap.size + 3) zS6 54) := by
    have := Blk.new (((w.alloc (.cells #[.int .i64 (D.p.steps : Int), .int .i64 D.p.fuse, .bool D.p.done, .bool D.p.down, .int .i64 D.n, .slice q.sa q.sn q.sc, .slice q.la q.ln q.lc, .slice q.ta q.tn q.tc, .slice q.pa q.pn q.pq, .int .i64 (D.steps : Int)] 42)).alloc (.cells #[.bool S.ideal, .slice d.ba d.bn d.bc, .slice d.ca d.cn d.cc, .int .u64 (S.count : Int), .bool S.reused, .bool S.forged] 54)).alloc (.cells #[.int .i64 0, .int .i64 0, .bool false, .bool false, .int .i64 0, .slice none 0 0, .slice none 0 0, .slice none 0 0, .slice none 0 0, .int .i64 0] 42)) #[.bool false, .slice none 0 0, .slice none 0 0, .int .u64 0, .bool false, .bool false] 54
    rwa [show (((w.alloc (.cells #[.int .i64 (D.p.steps : Int), .int .i64 D.p.fuse, .bool D.p.done, .bool D.p.down, .int .i64 D.n, .slice q.sa q.sn q.sc, .slice q.la q.ln q.lc, .slice q.ta q.tn q.tc, .slice q.pa q.pn q.pq, .int .i64 (D.steps : Int)] 42)).alloc (.cells #[.bool S.ideal, .slice d.ba d.bn d.bc, .slice d.ca d.cn d.cc, .int .u64 (S.count : Int), .bool S.reused, .bool S.forged] 54)).alloc (.cells #[.int .i64 0, .int .i64 0, .bool false, .bool false, .int .i64 0, .slice none 0 0, .slice none 0 0, .slice none 0 0, .slice none 0 0, .int .i64 0] 42)).heap.size = w.heap.size + 3 from by simp] at this
  have QW : Hid (Below w.heap.size w ((((w.alloc (.cells #[.int .i64 (D.p.steps : Int), .int .i64 D.p.fuse, .bool D.p.done, .bool D.p.down, .int .i64 D.n, .slice q.sa q.sn q.sc, .slice q.la q.ln q.lc, .slice q.ta q.tn q.tc, .slice q.pa q.pn q.pq, .int .i64 (D.steps : Int)] 42)).alloc (.cells #[.bool S.ideal, .slice d.ba d.bn d.bc, .slice d.ca d.cn d.cc, .int .u64 (S.count : Int), .bool S.reused, .bool S.forged] 54)).alloc (.cells #[.int .i64 0, .int .i64 0, .bool false, .bool false, .int .i64 0, .slice none 0 0, .slice none 0 0, .slice none 0 0, .slice none 0 0, .int .i64 0] 42)).alloc (.cells #[.bool false, .slice none 0 0, .slice none 0 0, .int .u64 0, .bool false, .bool false] 54))) := (below3 w _ _ _).trans ((below_alloc _ _).mono (by simp; omega))
  show Calls Tryz.prog _ #[.agg #[.int .i64 (D.p.steps : Int), .int .i64 D.p.fuse, .bool D.p.done, .bool D.p.down, .int .i64 D.n, .slice q.sa q.sn q.sc, .slice q.la q.ln q.lc, .slice q.ta q.tn q.tc, .slice q.pa q.pn q.pq, .int .i64 (D.steps : Int)], .agg #[.bool S.ideal, .slice d.ba d.bn d.bc, .slice d.ca d.cn d.cc, .int .u64 (S.count : Int), .bool S.reused, .bool S.forged], _, _, _] w _
  go_enter Tryz.func15, Tryz.ntmps15
  go_wp2_with fail
  obtain ⟨xd, hxd⟩ : ∃ x, x = w.heap.size := ⟨_, rfl⟩
  obtain ⟨xs, hxs⟩ : ∃ x, x = w.heap.size + 1 := ⟨_, rfl⟩
  obtain ⟨xR, hxR⟩ : ∃ x, x = w.heap.size + 2 := ⟨_, rfl⟩
  obtain ⟨xT, hxT⟩ : ∃ x, x = w.heap.size + 3 := ⟨_, rfl⟩
  first | rw [show w.heap.size + 1 + 1 + 1 = w.heap.size + 3 from rfl] | skip
  first | rw [show w.heap.size + 1 + 1 = w.heap.size + 2 from rfl] | skip
  rw [← hxd] at BD0
  rw [← hxs] at BS0
  rw [← hxR] at BR0
  rw [← hxT] at BT0
  rw [← hxT, ← hxR, ← hxs, ← hxd]
  have HX : Hid (xd = w.heap.size ∧ xs = w.heap.size + 1 ∧ xR = w.heap.size + 2 ∧ xT = w.heap.size + 3) := ⟨hxd, hxs, hxR, hxT⟩
  clear hxd hxs hxR hxT
  generalize (((w.alloc (.cells #[.int .i64 (D.p.steps : Int), .int .i64 D.p.fuse, .bool D.p.done, .bool D.p.down, .int .i64 D.n, .slice q.sa q.sn q.sc, .slice q.la q.ln q.lc, .slice q.ta q.tn q.tc, .slice q.pa q.pn q.pq, .int .i64 (D.steps : Int)] 42)).alloc (.cells #[.bool S.ideal, .slice d.ba d.bn d.bc, .slice d.ca d.cn d.cc, .int .u64 (S.count : Int), .bool S.reused, .bool S.forged] 54)).alloc (.cells #[.int .i64 0, .int .i64 0, .bool false, .bool false, .int .i64 0, .slice none 0 0, .slice none 0 0, .slice none 0 0, .slice none 0 0, .int .i64 0] 42)).alloc (.cells #[.bool false, .slice none 0 0, .slice none 0 0, .int .u64 0, .bool false, .bool false] 54) = w1 at *
  refine (CC.out w1 QW.out).mono ?_
  rintro x wr ⟨rfl, hb2⟩
  have BD1 : Hid (Blk wr xd (dc D q) 42) := BD0.out.below hb2 BD0.out.lt
  have BS1 : Hid (Blk wr xs (rsC S d) 54) := BS0.out.below hb2 BS0.out.lt
  have BR1 : Hid (Blk wr xR z40 42) := BR0.out.below hb2 BR0.out.lt
  have BT1 : Hid (Blk wr xT zS6 54) := BT0.out.below hb2 BT0.out.lt
  have Q1 : Hid (Below w.heap.size w wr) := QW.out.trans (hb2.mono QW.out.size)
  clear BD0 BS0 BR0 BT0 QW hb2 CC
  obtain ⟨A1, hA1⟩ : ∃ A1, A1 = Less2 A xR xT := ⟨_, rfl⟩
  have HB1 : Hid (∀ j, A1 j → A j ∧ j ≠ xR ∧ j ≠ xT) := fun j hj => by rw [hA1] at hj; exact hj
  have HM1 : Hid (∀ j, A j → j ≠ xR → j ≠ xT → A1 j) := fun j h1 h2 h3 => by rw [hA1]; exact ⟨h1, h2, h3⟩
  have HO1 : Hid (∀ j, j < w.heap.size → A j → A1 j) := fun j hj ha => HM1.out j ha (by have := HX.out; omega) (by have := HX.out; omega)
  have HN1 : Hid (∀ j, wr.heap.size ≤ j → A1 j) := fun j hj => HM1.out j (HAA.out j (Nat.le_trans Q1.out.size hj)) (by have := BR1.out.lt; omega) (by have := BT1.out.lt; omega)
  have RD1 : Hid (RD A1 wr D q) := (HR.out.mono HO1.out).below Q1.out
  have RS1 : Hid (RS A1 wr S d) := (HRS.out.mono HO1.out).grow Q1.out
  have I1 : Hid (Imgs A1 wr a n c l) := (HI.out.mono HO1.out).grow Q1.out
  have K1 : Hid (BA A1 wr ak 32 ck k) := (HK.out.mono HO1.out).below' Q1.out
  clear hA1 HR HRS HI HK
  by_cases c0 : cc = 0
  · have hE0 : ¬ e < 0 := fun hh => by
      have := HCC.out
      unfold chkE at this
      rw [if_pos hh] at this
      omega
    have hck : chkL l = 0 := by
      have := HCC.out
      unfold chkE at this
      rw [if_neg hE0] at this
      omega
    obtain ⟨E, rfl⟩ : ∃ E : Nat, e = (E : Int) := ⟨e.toNat, by omega⟩
    have hE : E ≤ 1099511627776 := by omega
    have hwE : IntKind.u64.wrap (E : Int) = (E : Int) := by rw [IntKind.wrap_u64]; omega
    obtain ⟨hn23, hok⟩ := chkL_of hck
    rw [HLN.out] at hn23
    have HOK : Hid (∀ c ∈ l, okI c) := hok
    have HP2 : Hid (P = WrtR A (applyD D (logL (S.made k (nonR E) (besR E) (hedL l)) l)) (S.seal k (nonR E) (besR E) (hedL l)) w) := by
      show P = _
      rw [HP.out]
      unfold wrtD wrtS
      rw [if_neg hE0, if_pos hck, if_neg hE0, if_pos hck, Int.toNat_natCast]
    subst c0
    clear HP HCC hE0 hck hok he
    go_upto_region 4 with fail
    go_cut [14, 15, 16] from 34 to 47 (fun pv bv cv wx => ∃ (g : Nat) (sa : Option Addr) (sn sc : Nat) (d2 : Du), pv = .pointer (some ⟨g, 0, none⟩) ∧ bv = .slice sa sn sc ∧ cv = .int .i64 0 ∧ Hid (MidW A1 wr wx g (S.seal k (nonR E) (besR E) (hedL l)) d2 sa sn sc (S.made k (nonR E) (besR E) (hedL l))))
    case first =>
        refine regionG (S := Grows wr) (by kernel_rfl) (Below.refl _ wr).drew ?_
        refine takeG 0 (some 35) (rsV S d) rfl rfl (by kernel_rfl) (by kernel_rfl) (by kernel_rfl) (fun _ _ _ h => h) (ans_row 54 (.tmp 6) _ 6 rfl (by rfl) xs 0 rfl (rsC S d) (fun u h => (BS1.out.below h BS1.out.lt).whole) Tryz.underlying54 rfl rfl sizeRS) ?_
        simp only [Act.put, List.setIfInBounds_toArray, List.set_cons_zero, List.set_cons_succ]
        refine takeG 1 (some 36) (.slice ak 32 ck) rfl rfl (by kernel_rfl) (by kernel_rfl) (by kernel_rfl) (fun _ _ _ h => h) (ans_plain (by rfl) (fun w _ => rfl)) ?_
        simp only [Act.put, List.setIfInBounds_toArray, List.set_cons_zero, List.set_cons_succ]
        refine takeG 2 (some 37) (.int .i64 (E : Int)) rfl rfl (by kernel_rfl) (by kernel_rfl) (by kernel_rfl) (fun _ _ _ h => h) (ans_plain (by rfl) (fun w _ => rfl)) ?_
        simp only [Act.put, List.setIfInBounds_toArray, List.set_cons_zero, List.set_cons_succ]
        refine takeG 3 (some 38) (.int .u64 (E : Int)) rfl rfl (by kernel_rfl) (by kernel_rfl) (by kernel_rfl) (fun _ _ _ h => h) (ans_plain (by rfl) (fun w _ => by unfold execOp; go_simp)) ?_
        simp only [Act.put, List.setIfInBounds_toArray, List.set_cons_zero, List.set_cons_succ]
        refine takeG 5 (some 40) (.int .i64 (E : Int)) rfl rfl (by kernel_rfl) (by kernel_rfl) (by kernel_rfl) (fun _ _ _ h => h) (ans_plain (by rfl) (fun w _ => rfl)) ?_
        simp only [Act.put, List.setIfInBounds_toArray, List.set_cons_zero, List.set_cons_succ]
        refine takeG 7 (some 42) (.slice a n c) rfl rfl (by kernel_rfl) (by kernel_rfl) (by kernel_rfl) (fun _ _ _ h => h) (ans_plain (by rfl) (fun w _ => rfl)) ?_
        simp only [Act.put, List.setIfInBounds_toArray, List.set_cons_zero, List.set_cons_succ]
        refine fork2G 4 14 (by kernel_rfl) (fun v1 hv1 sv1 => ?_) (fun v2 hv2 sv2 => ?_)
        · refine opCallW 4 (some 39) 38 #[.tmp 38, .const (.int .u32 4294967295)] #[52, 75] #[.int .u64 (E : Int), .int .u32 4294967295] rfl rfl rfl (by rfl) (by rfl) Tryz.call38 ?_
          refine (rNonce12 v1 E 4294967295 (by omega) (by omega)).mono ?_
          rintro e v3 ⟨an, mn, cn, rfl, on, hbn⟩
          have lmn : mn = 12 := by rw [← on.toBs.len]; exact nonL_length _ _
          subst lmn
          have Nn : BA A1 v3 _ _ _ _ := on.ba.mono fun i _ hi => HN1.out i (Nat.le_trans (Below.size sv1) hi)
          refine ⟨_, rfl, Grows.trans sv1 hbn, ?_⟩
          simp only [Act.put, List.setIfInBounds_toArray, List.set_cons_zero, List.set_cons_succ]
          refine fork2G 6 14 (by kernel_rfl) (fun v4 hv4 sv4 => ?_) (fun v5 hv5 sv5 => ?_)
          · have Nn := Nn.below' hv4
            refine opCallW 6 (some 41) 39 #[.tmp 40] #[3] #[.int .i64 (E : Int)] rfl rfl rfl (by rfl) (by rfl) Tryz.call39 ?_
            refine (rBes16 v4 E (by omega)).mono ?_
            rintro e v6 ⟨ab, mb, cb, rfl, ob, hbb⟩
            have lmb : mb ≤ 600 := by rw [← ob.toBs.len, besR_length]; omega
            have Bd : BA A1 v6 _ _ _ _ := ob.ba.mono fun i _ hi => HN1.out i (Nat.le_trans (Below.size sv4) hi)
            have Nn := Nn.below' hbb
            refine ⟨_, rfl, Grows.trans sv4 hbb, ?_⟩
            simp only [Act.put, List.setIfInBounds_toArray, List.set_cons_zero, List.set_cons_succ]
            refine fork2G 8 14 (by kernel_rfl) (fun v7 hv7 sv7 => ?_) (fun v8 hv8 sv8 => ?_)
            · have Nn := Nn.below' hv7
              have Bd := Bd.below' hv7
              refine opCallW 8 (some 43) 40 #[.tmp 42] #[46] #[.slice a n c] rfl rfl rfl (by rfl) (by rfl) Tryz.call40 ?_
              refine (rHed16 v7 (I1.out.grow sv7) hn23 HOK.out).mono ?_
              rintro e v9 ⟨ah, mh, ch, rfl, oh, hbh⟩
              have lmh : mh ≤ 600 := by rw [← oh.toBs.len, hedL_length, HLN.out]; omega
              have Hd : BA A1 v9 _ _ _ _ := oh.ba.mono fun i _ hi => HN1.out i (Nat.le_trans (Below.size sv7) hi)
              have Nn := Nn.below' hbh
              have Bd := Bd.below' hbh
              refine ⟨_, rfl, Grows.trans sv7 hbh, ?_⟩
              simp only [Act.put, List.setIfInBounds_toArray, List.set_cons_zero, List.set_cons_succ]
              refine fork2G 9 14 (by kernel_rfl) (fun v10 hv10 sv10 => ?_) (fun v11 hv11 sv11 => ?_)
              · have Nn := Nn.below' hv10
                have Bd := Bd.below' hv10
                have Hd := Hd.below' hv10
                refine opCallW 9 (some 44) 37 #[.tmp 35, .tmp 36, .tmp 39, .tmp 41, .tmp 43] #[54, 26, 26, 26, 26] #[rsV S d, .slice ak 32 ck, .slice an 12 cn, .slice ab mb cb, .slice ah mh ch] rfl rfl rfl (by rfl) (by rfl) Tryz.call37 ?_
                refine (rSeal12 v10 (A := A1) (fun i hi => HN1.out i (Nat.le_trans (Below.size sv10) hi)) (RS1.out.grow sv10) (K1.out.below' sv10) Nn Bd Hd (by omega) (by omega) HZ.out HQ.out).mono ?_
                rintro e v12 ⟨d2, sa, sn, sc, rfl, R2, Z2, hb2⟩
                obtain ⟨S2, hS2⟩ : ∃ S2, S2 = S.seal k (nonR E) (besR E) (hedL l) := ⟨_, rfl⟩
                obtain ⟨Z, hZ⟩ : ∃ Z, Z = S.made k (nonR E) (besR E) (hedL l) := ⟨_, rfl⟩
                rw [show S.seal k (nonL E 4294967295) (besR E) (hedL l) = S2 from hS2.symm] at R2 ⊢
                rw [show S.made k (nonL E 4294967295) (besR E) (hedL l) = Z from hZ.symm] at Z2
                refine ⟨_, rfl, Grows.trans sv10 hb2, ?_⟩
                simp only [Act.put, List.setIfInBounds_toArray, List.set_cons_zero, List.set_cons_succ]
                refine takeG 10 (some 34) (.tuple #[rsV S2 d2, .slice sa sn sc, .int .i64 0]) rfl rfl (by kernel_rfl) (by kernel_rfl) (by kernel_rfl) (fun _ _ _ h => h) (ans_plain (by rfl) (fun w _ => rfl)) ?_
                simp only [Act.put, List.setIfInBounds_toArray, List.set_cons_zero, List.set_cons_succ]
                refine takeG 11 (some 45) (rsV S2 d2) rfl rfl (by kernel_rfl) (by kernel_rfl) (by kernel_rfl) (fun _ _ _ h => h) (ans_plain (by rfl) (fun w _ => by unfold execOp; go_simp)) ?_
                simp only [Act.put, List.setIfInBounds_toArray, List.set_cons_zero, List.set_cons_succ]
                refine takeG 12 (some 46) (.slice sa sn sc) rfl rfl (by kernel_rfl) (by kernel_rfl) (by kernel_rfl) (fun _ _ _ h => h) (ans_plain (by rfl) (fun w _ => by unfold execOp; go_simp)) ?_
                simp only [Act.put, List.setIfInBounds_toArray, List.set_cons_zero, List.set_cons_succ]
                refine takeG 13 (some 47) (.int .i64 0) rfl rfl (by kernel_rfl) (by kernel_rfl) (by kernel_rfl) (fun _ _ _ h => h) (ans_plain (by rfl) (fun w _ => by unfold execOp; go_simp)) ?_
                simp only [Act.put, List.setIfInBounds_toArray, List.set_cons_zero, List.set_cons_succ]
                refine alloc1 (fun _ _ h h2 => Grows.trans h h2) 14 14 ⟨_, rfl, rfl, rfl, fun ρ w => rfl⟩ (by kernel_rfl) fun g v98 hg98 sv98 Bg hgx => ?_
                have R2 := (R2.off hgx).grow hg98
                have Z2 := (Z2.off hgx).below' hg98
                have hgw : wr.heap.size ≤ g := Nat.le_trans (Below.size (Grows.trans sv10 hb2)) hgx
                simp only [Act.put, List.setIfInBounds_toArray, List.set_cons_zero, List.set_cons_succ]
                refine oneG 15 (by kernel_rfl) fun v96 hg96 sv96 => ?_
                have R2 := R2.grow hg96
                have Z2 := Z2.below' hg96
                have Bg := Bg.below hg96 Bg.lt
                refine opStR 15 54 (.tmp 14) (.tmp 45) 6 rfl rfl rfl rfl g _ (rsC S2 d2) 54 Bg rfl rfl (rsC_one _ _) sizeRS rfl rfl fun v97 b9 k9 => ?_
                have hs9 : Grows wr v97 := Below.trans sv96 (k9.below (B := wr.heap.size) (Below.size sv96) (fun i hi e => by omega))
                have R2 := R2.kp k9 fun i hi e => hi.2 e
                have Z2 := Z2.kp k9 fun i hi e => hi.2 e
                refine ⟨hs9, ?_⟩
                refine takeG 16 (some 15) (.slice sa sn sc) rfl rfl (by kernel_rfl) (by kernel_rfl) (by kernel_rfl) (fun _ _ _ h => h) (ans_plain (by rfl) (fun w _ => rfl)) ?_
                simp only [Act.put, List.setIfInBounds_toArray, List.set_cons_zero, List.set_cons_succ]
                refine takeG 17 (some 16) (.int .i64 0) rfl rfl (by kernel_rfl) (by kernel_rfl) (by kernel_rfl) (fun _ _ _ h => h) (ans_plain (by rfl) (fun w _ => rfl)) ?_
                simp only [Act.put, List.setIfInBounds_toArray, List.set_cons_zero, List.set_cons_succ]
                refine doneG (by kernel_rfl) fun v95 hgz hsz => ?_
                have M9 : Hid (MidW A1 wr v95 g S2 d2 sa sn sc Z) := ⟨b9.below hgz b9.lt, (R2.mono fun i _ hi => hi.1).grow hgz, (Z2.mono' fun i _ hi => hi.1).below' hgz, hsz, hgw⟩
                rw [hS2, hZ] at M9
                clear R2 Z2 b9 k9 hs9 hgz hsz
                go_wp2_with fail
                go_meet
                case rel => exact ⟨g, sa, sn, sc, d2, rfl, rfl, rfl, M9⟩
              · have Nn := Nn.below' hv11
                have Bd := Bd.below' hv11
                have Hd := Hd.below' hv11
                refine opMake (fun _ _ h h2 => Grows.trans h h2) ⟨_, rfl, rfl, rfl, fun ρ w => rfl⟩ sv11 fun g v13 hv13 sv13 Bg hgx => ?_
                have Nn := Nn.off hgx
                have Bd := Bd.off hgx
                have Hd := Hd.off hgx
                have Nn := Nn.below' hv13
                have Bd := Bd.below' hv13
                have Hd := Hd.below' hv13
                have hgw : wr.heap.size ≤ g := Nat.le_trans (Below.size sv11) hgx
                simp only [Act.put, List.setIfInBounds_toArray, List.set_cons_zero, List.set_cons_succ]
                refine callG 9 (some 44) 37 #[.tmp 35, .tmp 36, .tmp 39, .tmp 41, .tmp 43] #[54, 26, 26, 26, 26] #[rsV S d, .slice ak 32 ck, .slice an 12 cn, .slice ab mb cb, .slice ah mh ch] rfl rfl rfl (by rfl) (by rfl) (by kernel_rfl) Tryz.call37 fun v14 hv14 sv14 => ?_
                have Nn := Nn.below' hv14
                have Bd := Bd.below' hv14
                have Hd := Hd.below' hv14
                have Bg := Bg.below hv14 Bg.lt
                refine (rSeal12 v14 (A := (Off A1 g)) (fun i hi => ⟨HN1.out i (Nat.le_trans (Below.size sv14) hi), by have := Bg.lt; omega⟩) ((RS1.out.off hgw).grow sv14) ((K1.out.off hgw).below' sv14) Nn Bd Hd (by omega) (by omega) HZ.out HQ.out).mono ?_
                rintro e v15 ⟨d2, sa, sn, sc, rfl, R2, Z2, hb2⟩
                obtain ⟨S2, hS2⟩ : ∃ S2, S2 = S.seal k (nonR E) (besR E) (hedL l) := ⟨_, rfl⟩
                obtain ⟨Z, hZ⟩ : ∃ Z, Z = S.made k (nonR E) (besR E) (hedL l) := ⟨_, rfl⟩
                rw [show S.seal k (nonL E 4294967295) (besR E) (hedL l) = S2 from hS2.symm] at R2 ⊢
                rw [show S.made k (nonL E 4294967295) (besR E) (hedL l) = Z from hZ.symm] at Z2
                have Bg := Bg.below hb2 Bg.lt
                refine ⟨_, rfl, Grows.trans sv14 hb2, ?_⟩
                simp only [Act.put, List.setIfInBounds_toArray, List.set_cons_zero, List.set_cons_succ]
                refine takeG 10 (some 34) (.tuple #[rsV S2 d2, .slice sa sn sc, .int .i64 0]) rfl rfl (by kernel_rfl) (by kernel_rfl) (by kernel_rfl) (fun _ _ _ h => h) (ans_plain (by rfl) (fun w _ => rfl)) ?_
                simp only [Act.put, List.setIfInBounds_toArray, List.set_cons_zero, List.set_cons_succ]
                refine takeG 11 (some 45) (rsV S2 d2) rfl rfl (by kernel_rfl) (by kernel_rfl) (by kernel_rfl) (fun _ _ _ h => h) (ans_plain (by rfl) (fun w _ => by unfold execOp; go_simp)) ?_
                simp only [Act.put, List.setIfInBounds_toArray, List.set_cons_zero, List.set_cons_succ]
                refine takeG 12 (some 46) (.slice sa sn sc) rfl rfl (by kernel_rfl) (by kernel_rfl) (by kernel_rfl) (fun _ _ _ h => h) (ans_plain (by rfl) (fun w _ => by unfold execOp; go_simp)) ?_
                simp only [Act.put, List.setIfInBounds_toArray, List.set_cons_zero, List.set_cons_succ]
                refine takeG 13 (some 47) (.int .i64 0) rfl rfl (by kernel_rfl) (by kernel_rfl) (by kernel_rfl) (fun _ _ _ h => h) (ans_plain (by rfl) (fun w _ => by unfold execOp; go_simp)) ?_
                simp only [Act.put, List.setIfInBounds_toArray, List.set_cons_zero, List.set_cons_succ]
                refine oneG 15 (by kernel_rfl) fun v96 hg96 sv96 => ?_
                have R2 := R2.grow hg96
                have Z2 := Z2.below' hg96
                have Bg := Bg.below hg96 Bg.lt
                refine opStR 15 54 (.tmp 14) (.tmp 45) 6 rfl rfl rfl rfl g _ (rsC S2 d2) 54 Bg rfl rfl (rsC_one _ _) sizeRS rfl rfl fun v97 b9 k9 => ?_
                have hs9 : Grows wr v97 := Below.trans sv96 (k9.below (B := wr.heap.size) (Below.size sv96) (fun i hi e => by omega))
                have R2 := R2.kp k9 fun i hi e => hi.2 e
                have Z2 := Z2.kp k9 fun i hi e => hi.2 e
                refine ⟨hs9, ?_⟩
                refine takeG 16 (some 15) (.slice sa sn sc) rfl rfl (by kernel_rfl) (by kernel_rfl) (by kernel_rfl) (fun _ _ _ h => h) (ans_plain (by rfl) (fun w _ => rfl)) ?_
                simp only [Act.put, List.setIfInBounds_toArray, List.set_cons_zero, List.set_cons_succ]
                refine takeG 17 (some 16) (.int .i64 0) rfl rfl (by kernel_rfl) (by kernel_rfl) (by kernel_rfl) (fun _ _ _ h => h) (ans_plain (by rfl) (fun w _ => rfl)) ?_
                simp only [Act.put, List.setIfInBounds_toArray, List.set_cons_zero, List.set_cons_succ]
                refine doneG (by kernel_rfl) fun v95 hgz hsz => ?_
                have M9 : Hid (MidW A1 wr v95 g S2 d2 sa sn sc Z) := ⟨b9.below hgz b9.lt, (R2.mono fun i _ hi => hi.1).grow hgz, (Z2.mono' fun i _ hi => hi.1).below' hgz, hsz, hgw⟩
                rw [hS2, hZ] at M9
                clear R2 Z2 b9 k9 hs9 hgz hsz
                go_wp2_with fail
                go_meet
                case rel => exact ⟨g, sa, sn, sc, d2, rfl, rfl, rfl, M9⟩
            · have Nn := Nn.below' hv8
              have Bd := Bd.below' hv8
              refine opMake (fun _ _ h h2 => Grows.trans h h2) ⟨_, rfl, rfl, rfl, fun ρ w => rfl⟩ sv8 fun g v16 hv16 sv16 Bg hgx => ?_
              have Nn := Nn.off hgx
              have Bd := Bd.off hgx
              have Nn := Nn.below' hv16
              have Bd := Bd.below' hv16
              have hgw : wr.heap.size ≤ g := Nat.le_trans (Below.size sv8) hgx
              simp only [Act.put, List.setIfInBounds_toArray, List.set_cons_zero, List.set_cons_succ]
              refine callG 8 (some 43) 40 #[.tmp 42] #[46] #[.slice a n c] rfl rfl rfl (by rfl) (by rfl) (by kernel_rfl) Tryz.call40 fun v17 hv17 sv17 => ?_
              have Nn := Nn.below' hv17
              have Bd := Bd.below' hv17
              have Bg := Bg.below hv17 Bg.lt
              refine (rHed16 v17 (I1.out.grow sv17) hn23 HOK.out).mono ?_
              rintro e v18 ⟨ah, mh, ch, rfl, oh, hbh⟩
              have lmh : mh ≤ 600 := by rw [← oh.toBs.len, hedL_length, HLN.out]; omega
              have Hd : BA (Off A1 g) v18 _ _ _ _ := oh.ba.mono fun i _ hi => ⟨HN1.out i (Nat.le_trans (Below.size sv17) hi), by have := Bg.lt; omega⟩
              have Nn := Nn.below' hbh
              have Bd := Bd.below' hbh
              have Bg := Bg.below hbh Bg.lt
              refine ⟨_, rfl, Grows.trans sv17 hbh, ?_⟩
              simp only [Act.put, List.setIfInBounds_toArray, List.set_cons_zero, List.set_cons_succ]
              refine callG 9 (some 44) 37 #[.tmp 35, .tmp 36, .tmp 39, .tmp 41, .tmp 43] #[54, 26, 26, 26, 26] #[rsV S d, .slice ak 32 ck, .slice an 12 cn, .slice ab mb cb, .slice ah mh ch] rfl rfl rfl (by rfl) (by rfl) (by kernel_rfl) Tryz.call37 fun v19 hv19 sv19 => ?_
              have Nn := Nn.below' hv19
              have Bd := Bd.below' hv19
              have Hd := Hd.below' hv19
              have Bg := Bg.below hv19 Bg.lt
              refine (rSeal12 v19 (A := (Off A1 g)) (fun i hi => ⟨HN1.out i (Nat.le_trans (Below.size sv19) hi), by have := Bg.lt; omega⟩) ((RS1.out.off hgw).grow sv19) ((K1.out.off hgw).below' sv19) Nn Bd Hd (by omega) (by omega) HZ.out HQ.out).mono ?_
              rintro e v20 ⟨d2, sa, sn, sc, rfl, R2, Z2, hb2⟩
              obtain ⟨S2, hS2⟩ : ∃ S2, S2 = S.seal k (nonR E) (besR E) (hedL l) := ⟨_, rfl⟩
              obtain ⟨Z, hZ⟩ : ∃ Z, Z = S.made k (nonR E) (besR E) (hedL l) := ⟨_, rfl⟩
              rw [show S.seal k (nonL E 4294967295) (besR E) (hedL l) = S2 from hS2.symm] at R2 ⊢
              rw [show S.made k (nonL E 4294967295) (besR E) (hedL l) = Z from hZ.symm] at Z2
              have Bg := Bg.below hb2 Bg.lt
              refine ⟨_, rfl, Grows.trans sv19 hb2, ?_⟩
              simp only [Act.put, List.setIfInBounds_toArray, List.set_cons_zero, List.set_cons_succ]
              refine takeG 10 (some 34) (.tuple #[rsV S2 d2, .slice sa sn sc, .int .i64 0]) rfl rfl (by kernel_rfl) (by kernel_rfl) (by kernel_rfl) (fun _ _ _ h => h) (ans_plain (by rfl) (fun w _ => rfl)) ?_
              simp only [Act.put, List.setIfInBounds_toArray, List.set_cons_zero, List.set_cons_succ]
              refine takeG 11 (some 45) (rsV S2 d2) rfl rfl (by kernel_rfl) (by kernel_rfl) (by kernel_rfl) (fun _ _ _ h => h) (ans_plain (by rfl) (fun w _ => by unfold execOp; go_simp)) ?_
              simp only [Act.put, List.setIfInBounds_toArray, List.set_cons_zero, List.set_cons_succ]
              refine takeG 12 (some 46) (.slice sa sn sc) rfl rfl (by kernel_rfl) (by kernel_rfl) (by kernel_rfl) (fun _ _ _ h => h) (ans_plain (by rfl) (fun w _ => by unfold execOp; go_simp)) ?_
              simp only [Act.put, List.setIfInBounds_toArray, List.set_cons_zero, List.set_cons_succ]
              refine takeG 13 (some 47) (.int .i64 0) rfl rfl (by kernel_rfl) (by kernel_rfl) (by kernel_rfl) (fun _ _ _ h => h) (ans_plain (by rfl) (fun w _ => by unfold execOp; go_simp)) ?_
              simp only [Act.put, List.setIfInBounds_toArray, List.set_cons_zero, List.set_cons_succ]
              refine oneG 15 (by kernel_rfl) fun v96 hg96 sv96 => ?_
              have R2 := R2.grow hg96
              have Z2 := Z2.below' hg96
              have Bg := Bg.below hg96 Bg.lt
              refine opStR 15 54 (.tmp 14) (.tmp 45) 6 rfl rfl rfl rfl g _ (rsC S2 d2) 54 Bg rfl rfl (rsC_one _ _) sizeRS rfl rfl fun v97 b9 k9 => ?_
              have hs9 : Grows wr v97 := Below.trans sv96 (k9.below (B := wr.heap.size) (Below.size sv96) (fun i hi e => by omega))
              have R2 := R2.kp k9 fun i hi e => hi.2 e
              have Z2 := Z2.kp k9 fun i hi e => hi.2 e
              refine ⟨hs9, ?_⟩
              refine takeG 16 (some 15) (.slice sa sn sc) rfl rfl (by kernel_rfl) (by kernel_rfl) (by kernel_rfl) (fun _ _ _ h => h) (ans_plain (by rfl) (fun w _ => rfl)) ?_
              simp only [Act.put, List.setIfInBounds_toArray, List.set_cons_zero, List.set_cons_succ]
              refine takeG 17 (some 16) (.int .i64 0) rfl rfl (by kernel_rfl) (by kernel_rfl) (by kernel_rfl) (fun _ _ _ h => h) (ans_plain (by rfl) (fun w _ => rfl)) ?_
              simp only [Act.put, List.setIfInBounds_toArray, List.set_cons_zero, List.set_cons_succ]
              refine doneG (by kernel_rfl) fun v95 hgz hsz => ?_
              have M9 : Hid (MidW A1 wr v95 g S2 d2 sa sn sc Z) := ⟨b9.below hgz b9.lt, (R2.mono fun i _ hi => hi.1).grow hgz, (Z2.mono' fun i _ hi => hi.1).below' hgz, hsz, hgw⟩
              rw [hS2, hZ] at M9
              clear R2 Z2 b9 k9 hs9 hgz hsz
              go_wp2_with fail
              go_meet
              case rel => exact ⟨g, sa, sn, sc, d2, rfl, rfl, rfl, M9⟩
          · have Nn := Nn.below' hv5
            refine opMake (fun _ _ h h2 => Grows.trans h h2) ⟨_, rfl, rfl, rfl, fun ρ w => rfl⟩ sv5 fun g v21 hv21 sv21 Bg hgx => ?_
            have Nn := Nn.off hgx
            have Nn := Nn.below' hv21
            have hgw : wr.heap.size ≤ g := Nat.le_trans (Below.size sv5) hgx
            simp only [Act.put, List.setIfInBounds_toArray, List.set_cons_zero, List.set_cons_succ]
            refine callG 6 (some 41) 39 #[.tmp 40] #[3] #[.int .i64 (E : Int)] rfl rfl rfl (by rfl) (by rfl) (by kernel_rfl) Tryz.call39 fun v22 hv22 sv22 => ?_
            have Nn := Nn.below' hv22
            have Bg := Bg.below hv22 Bg.lt
            refine (rBes16 v22 E (by omega)).mono ?_
            rintro e v23 ⟨ab, mb, cb, rfl, ob, hbb⟩
            have lmb : mb ≤ 600 := by rw [← ob.toBs.len, besR_length]; omega
            have Bd : BA (Off A1 g) v23 _ _ _ _ := ob.ba.mono fun i _ hi => ⟨HN1.out i (Nat.le_trans (Below.size sv22) hi), by have := Bg.lt; omega⟩
            have Nn := Nn.below' hbb
            have Bg := Bg.below hbb Bg.lt
            refine ⟨_, rfl, Grows.trans sv22 hbb, ?_⟩
            simp only [Act.put, List.setIfInBounds_toArray, List.set_cons_zero, List.set_cons_succ]
            refine callG 8 (some 43) 40 #[.tmp 42] #[46] #[.slice a n c] rfl rfl rfl (by rfl) (by rfl) (by kernel_rfl) Tryz.call40 fun v24 hv24 sv24 => ?_
            have Nn := Nn.below' hv24
            have Bd := Bd.below' hv24
            have Bg := Bg.below hv24 Bg.lt
            refine (rHed16 v24 (I1.out.grow sv24) hn23 HOK.out).mono ?_
            rintro e v25 ⟨ah, mh, ch, rfl, oh, hbh⟩
            have lmh : mh ≤ 600 := by rw [← oh.toBs.len, hedL_length, HLN.out]; omega
            have Hd : BA (Off A1 g) v25 _ _ _ _ := oh.ba.mono fun i _ hi => ⟨HN1.out i (Nat.le_trans (Below.size sv24) hi), by have := Bg.lt; omega⟩
            have Nn := Nn.below' hbh
            have Bd := Bd.below' hbh
            have Bg := Bg.below hbh Bg.lt
            refine ⟨_, rfl, Grows.trans sv24 hbh, ?_⟩
            simp only [Act.put, List.setIfInBounds_toArray, List.set_cons_zero, List.set_cons_succ]
            refine callG 9 (some 44) 37 #[.tmp 35, .tmp 36, .tmp 39, .tmp 41, .tmp 43] #[54, 26, 26, 26, 26] #[rsV S d, .slice ak 32 ck, .slice an 12 cn, .slice ab mb cb, .slice ah mh ch] rfl rfl rfl (by rfl) (by rfl) (by kernel_rfl) Tryz.call37 fun v26 hv26 sv26 => ?_
            have Nn := Nn.below' hv26
            have Bd := Bd.below' hv26
            have Hd := Hd.below' hv26
            have Bg := Bg.below hv26 Bg.lt
            refine (rSeal12 v26 (A := (Off A1 g)) (fun i hi => ⟨HN1.out i (Nat.le_trans (Below.size sv26) hi), by have := Bg.lt; omega⟩) ((RS1.out.off hgw).grow sv26) ((K1.out.off hgw).below' sv26) Nn Bd Hd (by omega) (by omega) HZ.out HQ.out).mono ?_
            rintro e v27 ⟨d2, sa, sn, sc, rfl, R2, Z2, hb2⟩
            obtain ⟨S2, hS2⟩ : ∃ S2, S2 = S.seal k (nonR E) (besR E) (hedL l) := ⟨_, rfl⟩
            obtain ⟨Z, hZ⟩ : ∃ Z, Z = S.made k (nonR E) (besR E) (hedL l) := ⟨_, rfl⟩
            rw [show S.seal k (nonL E 4294967295) (besR E) (hedL l) = S2 from hS2.symm] at R2 ⊢
            rw [show S.made k (nonL E 4294967295) (besR E) (hedL l) = Z from hZ.symm] at Z2
            have Bg := Bg.below hb2 Bg.lt
            refine ⟨_, rfl, Grows.trans sv26 hb2, ?_⟩
            simp only [Act.put, List.setIfInBounds_toArray, List.set_cons_zero, List.set_cons_succ]
            refine takeG 10 (some 34) (.tuple #[rsV S2 d2, .slice sa sn sc, .int .i64 0]) rfl rfl (by kernel_rfl) (by kernel_rfl) (by kernel_rfl) (fun _ _ _ h => h) (ans_plain (by rfl) (fun w _ => rfl)) ?_
            simp only [Act.put, List.setIfInBounds_toArray, List.set_cons_zero, List.set_cons_succ]
            refine takeG 11 (some 45) (rsV S2 d2) rfl rfl (by kernel_rfl) (by kernel_rfl) (by kernel_rfl) (fun _ _ _ h => h) (ans_plain (by rfl) (fun w _ => by unfold execOp; go_simp)) ?_
            simp only [Act.put, List.setIfInBounds_toArray, List.set_cons_zero, List.set_cons_succ]
            refine takeG 12 (some 46) (.slice sa sn sc) rfl rfl (by kernel_rfl) (by kernel_rfl) (by kernel_rfl) (fun _ _ _ h => h) (ans_plain (by rfl) (fun w _ => by unfold execOp; go_simp)) ?_
            simp only [Act.put, List.setIfInBounds_toArray, List.set_cons_zero, List.set_cons_succ]
            refine takeG 13 (some 47) (.int .i64 0) rfl rfl (by kernel_rfl) (by kernel_rfl) (by kernel_rfl) (fun _ _ _ h => h) (ans_plain (by rfl) (fun w _ => by unfold execOp; go_simp)) ?_
            simp only [Act.put, List.setIfInBounds_toArray, List.set_cons_zero, List.set_cons_succ]
            refine oneG 15 (by kernel_rfl) fun v96 hg96 sv96 => ?_
            have R2 := R2.grow hg96
            have Z2 := Z2.below' hg96
            have Bg := Bg.below hg96 Bg.lt
            refine opStR 15 54 (.tmp 14) (.tmp 45) 6 rfl rfl rfl rfl g _ (rsC S2 d2) 54 Bg rfl rfl (rsC_one _ _) sizeRS rfl rfl fun v97 b9 k9 => ?_
            have hs9 : Grows wr v97 := Below.trans sv96 (k9.below (B := wr.heap.size) (Below.size sv96) (fun i hi e => by omega))
            have R2 := R2.kp k9 fun i hi e => hi.2 e
            have Z2 := Z2.kp k9 fun i hi e => hi.2 e
            refine ⟨hs9, ?_⟩
            refine takeG 16 (some 15) (.slice sa sn sc) rfl rfl (by kernel_rfl) (by kernel_rfl) (by kernel_rfl) (fun _ _ _ h => h) (ans_plain (by rfl) (fun w _ => rfl)) ?_
            simp only [Act.put, List.setIfInBounds_toArray, List.set_cons_zero, List.set_cons_succ]
            refine takeG 17 (some 16) (.int .i64 0) rfl rfl (by kernel_rfl) (by kernel_rfl) (by kernel_rfl) (fun _ _ _ h => h) (ans_plain (by rfl) (fun w _ => rfl)) ?_
            simp only [Act.put, List.setIfInBounds_toArray, List.set_cons_zero, List.set_cons_succ]
            refine doneG (by kernel_rfl) fun v95 hgz hsz => ?_
            have M9 : Hid (MidW A1 wr v95 g S2 d2 sa sn sc Z) := ⟨b9.below hgz b9.lt, (R2.mono fun i _ hi => hi.1).grow hgz, (Z2.mono' fun i _ hi => hi.1).below' hgz, hsz, hgw⟩
            rw [hS2, hZ] at M9
            clear R2 Z2 b9 k9 hs9 hgz hsz
            go_wp2_with fail
            go_meet
            case rel => exact ⟨g, sa, sn, sc, d2, rfl, rfl, rfl, M9⟩
        · refine opMake (fun _ _ h h2 => Grows.trans h h2) ⟨_, rfl, rfl, rfl, fun ρ w => rfl⟩ sv2 fun g v28 hv28 sv28 Bg hgx => ?_
          have hgw : wr.heap.size ≤ g := Nat.le_trans (Below.size sv2) hgx
          simp only [Act.put, List.setIfInBounds_toArray, List.set_cons_zero, List.set_cons_succ]
          refine callG 4 (some 39) 38 #[.tmp 38, .const (.int .u32 4294967295)] #[52, 75] #[.int .u64 (E : Int), .int .u32 4294967295] rfl rfl rfl (by rfl) (by rfl) (by kernel_rfl) Tryz.call38 fun v29 hv29 sv29 => ?_
          have Bg := Bg.below hv29 Bg.lt
          refine (rNonce12 v29 E 4294967295 (by omega) (by omega)).mono ?_
          rintro e v30 ⟨an, mn, cn, rfl, on, hbn⟩
          have lmn : mn = 12 := by rw [← on.toBs.len]; exact nonL_length _ _
          subst lmn
          have Nn : BA (Off A1 g) v30 _ _ _ _ := on.ba.mono fun i _ hi => ⟨HN1.out i (Nat.le_trans (Below.size sv29) hi), by have := Bg.lt; omega⟩
          have Bg := Bg.below hbn Bg.lt
          refine ⟨_, rfl, Grows.trans sv29 hbn, ?_⟩
          simp only [Act.put, List.setIfInBounds_toArray, List.set_cons_zero, List.set_cons_succ]
          refine callG 6 (some 41) 39 #[.tmp 40] #[3] #[.int .i64 (E : Int)] rfl rfl rfl (by rfl) (by rfl) (by kernel_rfl) Tryz.call39 fun v31 hv31 sv31 => ?_
          have Nn := Nn.below' hv31
          have Bg := Bg.below hv31 Bg.lt
          refine (rBes16 v31 E (by omega)).mono ?_
          rintro e v32 ⟨ab, mb, cb, rfl, ob, hbb⟩
          have lmb : mb ≤ 600 := by rw [← ob.toBs.len, besR_length]; omega
          have Bd : BA (Off A1 g) v32 _ _ _ _ := ob.ba.mono fun i _ hi => ⟨HN1.out i (Nat.le_trans (Below.size sv31) hi), by have := Bg.lt; omega⟩
          have Nn := Nn.below' hbb
          have Bg := Bg.below hbb Bg.lt
          refine ⟨_, rfl, Grows.trans sv31 hbb, ?_⟩
          simp only [Act.put, List.setIfInBounds_toArray, List.set_cons_zero, List.set_cons_succ]
          refine callG 8 (some 43) 40 #[.tmp 42] #[46] #[.slice a n c] rfl rfl rfl (by rfl) (by rfl) (by kernel_rfl) Tryz.call40 fun v33 hv33 sv33 => ?_
          have Nn := Nn.below' hv33
          have Bd := Bd.below' hv33
          have Bg := Bg.below hv33 Bg.lt
          refine (rHed16 v33 (I1.out.grow sv33) hn23 HOK.out).mono ?_
          rintro e v34 ⟨ah, mh, ch, rfl, oh, hbh⟩
          have lmh : mh ≤ 600 := by rw [← oh.toBs.len, hedL_length, HLN.out]; omega
          have Hd : BA (Off A1 g) v34 _ _ _ _ := oh.ba.mono fun i _ hi => ⟨HN1.out i (Nat.le_trans (Below.size sv33) hi), by have := Bg.lt; omega⟩
          have Nn := Nn.below' hbh
          have Bd := Bd.below' hbh
          have Bg := Bg.below hbh Bg.lt
          refine ⟨_, rfl, Grows.trans sv33 hbh, ?_⟩
          simp only [Act.put, List.setIfInBounds_toArray, List.set_cons_zero, List.set_cons_succ]
          refine callG 9 (some 44) 37 #[.tmp 35, .tmp 36, .tmp 39, .tmp 41, .tmp 43] #[54, 26, 26, 26, 26] #[rsV S d, .slice ak 32 ck, .slice an 12 cn, .slice ab mb cb, .slice ah mh ch] rfl rfl rfl (by rfl) (by rfl) (by kernel_rfl) Tryz.call37 fun v35 hv35 sv35 => ?_
          have Nn := Nn.below' hv35
          have Bd := Bd.below' hv35
          have Hd := Hd.below' hv35
          have Bg := Bg.below hv35 Bg.lt
          refine (rSeal12 v35 (A := (Off A1 g)) (fun i hi => ⟨HN1.out i (Nat.le_trans (Below.size sv35) hi), by have := Bg.lt; omega⟩) ((RS1.out.off hgw).grow sv35) ((K1.out.off hgw).below' sv35) Nn Bd Hd (by omega) (by omega) HZ.out HQ.out).mono ?_
          rintro e v36 ⟨d2, sa, sn, sc, rfl, R2, Z2, hb2⟩
          obtain ⟨S2, hS2⟩ : ∃ S2, S2 = S.seal k (nonR E) (besR E) (hedL l) := ⟨_, rfl⟩
          obtain ⟨Z, hZ⟩ : ∃ Z, Z = S.made k (nonR E) (besR E) (hedL l) := ⟨_, rfl⟩
          rw [show S.seal k (nonL E 4294967295) (besR E) (hedL l) = S2 from hS2.symm] at R2 ⊢
          rw [show S.made k (nonL E 4294967295) (besR E) (hedL l) = Z from hZ.symm] at Z2
          have Bg := Bg.below hb2 Bg.lt
          refine ⟨_, rfl, Grows.trans sv35 hb2, ?_⟩
          simp only [Act.put, List.setIfInBounds_toArray, List.set_cons_zero, List.set_cons_succ]
          refine takeG 10 (some 34) (.tuple #[rsV S2 d2, .slice sa sn sc, .int .i64 0]) rfl rfl (by kernel_rfl) (by kernel_rfl) (by kernel_rfl) (fun _ _ _ h => h) (ans_plain (by rfl) (fun w _ => rfl)) ?_
          simp only [Act.put, List.setIfInBounds_toArray, List.set_cons_zero, List.set_cons_succ]
          refine takeG 11 (some 45) (rsV S2 d2) rfl rfl (by kernel_rfl) (by kernel_rfl) (by kernel_rfl) (fun _ _ _ h => h) (ans_plain (by rfl) (fun w _ => by unfold execOp; go_simp)) ?_
          simp only [Act.put, List.setIfInBounds_toArray, List.set_cons_zero, List.set_cons_succ]
          refine takeG 12 (some 46) (.slice sa sn sc) rfl rfl (by kernel_rfl) (by kernel_rfl) (by kernel_rfl) (fun _ _ _ h => h) (ans_plain (by rfl) (fun w _ => by unfold execOp; go_simp)) ?_
          simp only [Act.put, List.setIfInBounds_toArray, List.set_cons_zero, List.set_cons_succ]
          refine takeG 13 (some 47) (.int .i64 0) rfl rfl (by kernel_rfl) (by kernel_rfl) (by kernel_rfl) (fun _ _ _ h => h) (ans_plain (by rfl) (fun w _ => by unfold execOp; go_simp)) ?_
          simp only [Act.put, List.setIfInBounds_toArray, List.set_cons_zero, List.set_cons_succ]
          refine oneG 15 (by kernel_rfl) fun v96 hg96 sv96 => ?_
          have R2 := R2.grow hg96
          have Z2 := Z2.below' hg96
          have Bg := Bg.below hg96 Bg.lt
          refine opStR 15 54 (.tmp 14) (.tmp 45) 6 rfl rfl rfl rfl g _ (rsC S2 d2) 54 Bg rfl rfl (rsC_one _ _) sizeRS rfl rfl fun v97 b9 k9 => ?_
          have hs9 : Grows wr v97 := Below.trans sv96 (k9.below (B := wr.heap.size) (Below.size sv96) (fun i hi e => by omega))
          have R2 := R2.kp k9 fun i hi e => hi.2 e
          have Z2 := Z2.kp k9 fun i hi e => hi.2 e
          refine ⟨hs9, ?_⟩
          refine takeG 16 (some 15) (.slice sa sn sc) rfl rfl (by kernel_rfl) (by kernel_rfl) (by kernel_rfl) (fun _ _ _ h => h) (ans_plain (by rfl) (fun w _ => rfl)) ?_
          simp only [Act.put, List.setIfInBounds_toArray, List.set_cons_zero, List.set_cons_succ]
          refine takeG 17 (some 16) (.int .i64 0) rfl rfl (by kernel_rfl) (by kernel_rfl) (by kernel_rfl) (fun _ _ _ h => h) (ans_plain (by rfl) (fun w _ => rfl)) ?_
          simp only [Act.put, List.setIfInBounds_toArray, List.set_cons_zero, List.set_cons_succ]
          refine doneG (by kernel_rfl) fun v95 hgz hsz => ?_
          have M9 : Hid (MidW A1 wr v95 g S2 d2 sa sn sc Z) := ⟨b9.below hgz b9.lt, (R2.mono fun i _ hi => hi.1).grow hgz, (Z2.mono' fun i _ hi => hi.1).below' hgz, hsz, hgw⟩
          rw [hS2, hZ] at M9
          clear R2 Z2 b9 k9 hs9 hgz hsz
          go_wp2_with fail
          go_meet
          case rel => exact ⟨g, sa, sn, sc, d2, rfl, rfl, rfl, M9⟩
    case rest =>
      obtain ⟨g, sa, sn, sc, d2, rfl, rfl, rfl, M9⟩ := hcut
      obtain ⟨S2, hS2⟩ : ∃ S2, S2 = S.seal k (nonR E) (besR E) (hedL l) := ⟨_, rfl⟩
      obtain ⟨Z, hZ⟩ : ∃ Z, Z = S.made k (nonR E) (besR E) (hedL l) := ⟨_, rfl⟩
      have HZL : Hid (Z.length ≤ 512) := by show _ ≤ _; rw [hZ, SeaS.made_length HKL.out (nonR_length E), hedL_length, HLN.out]; omega
      rw [← hS2, ← hZ] at M9 HP2
      have hsn : sn ≤ 512 := by rw [← M9.out.2.2.1.1.len]; exact HZL.out
      have hsz : (wc.alloc (.cells #[.int .i64 0, .int .i64 0, .bool false, .bool false, .int .i64 0, .slice none 0 0, .slice none 0 0, .slice none 0 0, .slice none 0 0, .int .i64 0] 42)).heap.size = wc.heap.size + 1 := by simp
      clear hS2 hZ
      have BD2 : Hid (Blk wc xd (dc D q) 42) := BD1.out.below M9.out.2.2.2.1 BD1.out.lt
      have z7 : Blk (wc.alloc (.cells #[.int .i64 0, .int .i64 0, .bool false, .bool false, .int .i64 0, .slice none 0 0, .slice none 0 0, .slice none 0 0, .slice none 0 0, .int .i64 0] 42)) wc.heap.size z40 42 := Blk.newAt wc _ _ wc.heap.size rfl _ rfl
      have k7 : Below wc.heap.size wc (wc.alloc (.cells #[.int .i64 0, .int .i64 0, .bool false, .bool false, .int .i64 0, .slice none 0 0, .slice none 0 0, .slice none 0 0, .slice none 0 0, .int .i64 0] 42)) := below_alloc _ _
      go_upto_region 8 with (first
        | ((with_reducible refine at_ld 42 ?_); (refine ld 42 (.tmp 5) 10 sizeDk _ Tryz.underlying42 rfl xd 0 (dc D q) rfl BD2.out.whole rfl ?_))
        | ((with_reducible refine at_st 42 ?_); (refine st' 42 (.tmp 17) (.tmp 53) 10 sizeDk wc.heap.size 0 (dc D q) rfl (dc_one _ _) (z7.there 0 10 (by simp [z40])) rfl rfl ?_); intro w8 hw8
           have X8 : Hid (Blk w8 wc.heap.size (dc D q) 42) := by rw [hw8]; exact z7.setsW _ rfl
           have K8 : Hid (Below wc.heap.size wc w8) := by rw [hw8]; exact below_sets (Nat.le_refl _) _ k7 0
           clear hw8))
      clear z7 k7 hsz
      obtain ⟨xX, hxX⟩ : ∃ x, x = wc.heap.size := ⟨_, rfl⟩
      obtain ⟨A2, hA2⟩ : ∃ A2, A2 = Off A1 xX := ⟨_, rfl⟩
      have HB2 : Hid (∀ j, A2 j → A1 j ∧ j ≠ xX) := fun j hj => by rw [hA2] at hj; exact hj
      have HM2 : Hid (∀ j, A1 j → j ≠ xX → A2 j) := fun j h1 h2 => by rw [hA2]; exact ⟨h1, h2⟩
      have Qc : Hid (Below w.heap.size w wc) := Q1.out.trans (M9.out.2.2.2.1.mono Q1.out.size)
      have BR2 := BR1.out.below M9.out.2.2.2.1 BR1.out.lt
      have BT2 := BT1.out.below M9.out.2.2.2.1 BT1.out.lt
      have HO2 : ∀ j, j < wc.heap.size → A1 j → A2 j := fun j hj ha => HM2.out j ha (by omega)
      have HNE : Hid (xR ≠ xX ∧ xT ≠ xX ∧ g ≠ xX ∧ w.heap.size ≤ xX) := ⟨by have := BR2.lt; omega, by have := BT2.lt; omega, by have := M9.out.1.lt; omega, by have := Qc.out.size; omega⟩
      have HGE : Hid (g ≠ xR ∧ g ≠ xT) := ⟨by have := BR1.out.lt; have := M9.out.2.2.2.2; omega, by have := BT1.out.lt; have := M9.out.2.2.2.2; omega⟩
      have HX8 : Hid (xX < w8.heap.size) := by rw [hxX]; exact X8.out.lt
      have I8 : Hid (WrI A2 w w8 xX xR xT g D q S2 d2 sa sn sc Z a n c l) := by
        refine ⟨((RD1.out.below M9.out.2.2.2.1).mono HO2).below K8.out, by rw [hxX]; exact X8.out, BR2.below K8.out BR2.lt, BT2.below K8.out BT2.lt, M9.out.1.below K8.out M9.out.1.lt, (M9.out.2.1.mono HO2).grow K8.out, (M9.out.2.2.1.mono HO2).below' K8.out, ((I1.out.grow M9.out.2.2.2.1).mono HO2).grow K8.out, Qc.out.trans (K8.out.mono Qc.out.size)⟩
      rw [← hxX]
      clear BD1 BS1 BR1 BT1 Q1 HN1 RD1 RS1 I1 K1 M9 BD2 X8 K8 hA2 Qc BR2 BT2 HO2 hxX HZ HQ
      go_wp2_with fail
      rename World => wo
      go_loopw [18] (fun i wr => ∃ (k : Nat) (D1 : DskS) (q1 : Quad), k ≤ n ∧ i = .int .i64 (k : Int) ∧ Hid (WrI A2 w wr xX xR xT g D1 q1 S2 d2 sa sn sc Z a n c l) ∧ Hid (D1.fit (mm + 3 * k)) ∧ Hid (applyD D (logL Z l) = applyD D1 ((logL Z l).drop k))) (fun i _ => n - (intOf i).toNat)
      case atStart => exact ⟨0, D, q, Nat.zero_le _, rfl, I8, HF.out.a_mono (by omega), rfl⟩
      case round =>
        obtain ⟨k', D1, q1, hk', rfl, I1, F1, E1⟩ := hrel
        clear I8 HF HX8
        have HN2 : Hid (∀ j, wr.heap.size ≤ j → A2 j) := fun j hj => HM2.out j (HM1.out j (HAA.out j (Nat.le_trans I1.out.bel.size hj)) (by have := I1.out.r.lt; omega) (by have := I1.out.t.lt; omega)) (by have := I1.out.x.lt; omega)
        by_cases hlt : k' < n
        · have j0 : (k' : Int) < (n : Int) := by omega
          have i3 : (0 : Int) ≤ (k' : Int) := by omega
          have hw1 : IntKind.i64.wrap ((k' : Int) + 1) = (k' : Int) + 1 := by rw [IntKind.wrap_i64]; omega
          obtain ⟨x, hx⟩ : ∃ x, l[k']? = some x := ⟨_, List.getElem?_eq_getElem (by rw [HLN.out]; exact hlt)⟩
          obtain ⟨b, o, p, m, q3, ha, hlb, hAb, hrg, hB5, hi⟩ := I1.out.im.at hx
          have x1 : wr.cell? ⟨b, o + k' * 2 + 1, none⟩ = some (.slice p m q3) := hrg 1 _ rfl
          have EN : Hid (applyD D (logL Z l) = if (D1.write ((k' : Int) + 1) x.2).2 = 0 then applyD (D1.write ((k' : Int) + 1) x.2).1 ((logL Z l).drop (k' + 1)) else D1.write ((k' : Int) + 1) x.2) := by
            show _ = _
            rw [E1.out, logL_drop Z hx]
            rfl
          have F2 : Hid ((D1.write ((k' : Int) + 1) x.2).1.fit (mm + 3 * (k' + 1))) := (F1.out.a_write _ _).a_mono (by omega)
          have H5 : Hid (B5 A2 wr p m q3 x.2) := hB5
          obtain ⟨xa, xb⟩ := x
          dsimp only at EN F2 H5
          subst ha
          have X1c : ∀ u, Grows wr u → u.cell? ⟨b, o + k' * 2 + 1, none⟩ = some (.slice p m q3) := fun u h => (Below.cell h (p := ⟨b, o + k' * 2 + 1, none⟩) hlb).trans x1
          have HB : Hid (∀ u, Grows wr u → B5 A2 u p m q3 xb) := fun u h => H5.out.below h
          have X1 : Hid (Blk wr xX (dc D1 q1) 42) := I1.out.x
          have R1 : Hid (RD A2 wr D1 q1) := I1.out.rd
          obtain ⟨D2, hD2⟩ : ∃ D2, D2 = (D1.write ((k' : Int) + 1) xb).1 := ⟨_, rfl⟩
          obtain ⟨z, hz⟩ : ∃ z, z = (D1.write ((k' : Int) + 1) xb).2 := ⟨_, rfl⟩
          have CWR : Hid (∀ u, Grows wr u → ∀ A' : Nat → Prop, (∀ j, u.heap.size ≤ j → A' j) → RD A' u D1 q1 → B5 A' u p m q3 xb → Calls Tryz.prog 41 #[dv D1 q1, .int .i64 ((k' : Int) + 1), .slice p m q3] u fun e w' => ∃ q', e = .returned (.tuple #[dv D2 q', .int .i64 z]) ∧ RD A' w' D2 q' ∧ Below u.heap.size u w') := fun u hu A' h1 h2 h3 => by
            rw [hD2, hz]
            exact rWrite u h2 h1 F1.out (by omega) ((k' : Int) + 1) (by constructor <;> omega) h3
          have EN2 : Hid (applyD D (logL Z l) = if z = 0 then applyD D2 ((logL Z l).drop (k' + 1)) else (D2, z)) := by
            show _ = _
            rw [hD2, hz]
            exact EN.out
          rw [← hD2] at F2
          clear hrg hB5 hi hx x1 hD2 hz EN H5 E1
          go_upto_region 11 with fail
          go_cut [19, 20] from 60 to 71 (fun pv cv wx => ∃ (gy : Nat) (q2 : Quad), pv = .pointer (some ⟨gy, 0, none⟩) ∧ cv = .int .i64 z ∧ Hid (MidA A2 wr wx gy D2 q2))
          case first =>
            refine regionG (S := Grows wr) (by kernel_rfl) (Below.refl _ wr).drew ?_
            refine takeG 0 (some 61) (dv D1 q1) rfl rfl (by kernel_rfl) (by kernel_rfl) (by kernel_rfl) (fun _ _ _ h => h) (ans_row 42 (.tmp 17) _ 10 rfl (by rfl) xX 0 rfl (dc D1 q1) (fun u h => (X1.out.below h X1.out.lt).whole) Tryz.underlying42 rfl rfl sizeDk) ?_
            simp only [Act.put, List.setIfInBounds_toArray, List.set_cons_zero, List.set_cons_succ]
            refine takeG 1 (some 62) (.int .i64 (k' : Int)) rfl rfl (by kernel_rfl) (by kernel_rfl) (by kernel_rfl) (fun _ _ _ h => h) (ans_plain (by rfl) (fun w _ => rfl)) ?_
            simp only [Act.put, List.setIfInBounds_toArray, List.set_cons_zero, List.set_cons_succ]
            refine takeG 2 (some 63) (.int .i64 ((k' : Int) + 1)) rfl rfl (by kernel_rfl) (by kernel_rfl) (by kernel_rfl) (fun _ _ _ h => h) (ans_plain (by rfl) (fun w _ => by unfold execOp; go_simp)) ?_
            simp only [Act.put, List.setIfInBounds_toArray, List.set_cons_zero, List.set_cons_succ]
            refine takeG 3 (some 64) (.slice (some ⟨b, o, none⟩) n c) rfl rfl (by kernel_rfl) (by kernel_rfl) (by kernel_rfl) (fun _ _ _ h => h) (ans_plain (by rfl) (fun w _ => rfl)) ?_
            simp only [Act.put, List.setIfInBounds_toArray, List.set_cons_zero, List.set_cons_succ]
            refine takeG 4 (some 65) (.int .i64 (k' : Int)) rfl rfl (by kernel_rfl) (by kernel_rfl) (by kernel_rfl) (fun _ _ _ h => h) (ans_plain (by rfl) (fun w _ => rfl)) ?_
            simp only [Act.put, List.setIfInBounds_toArray, List.set_cons_zero, List.set_cons_succ]
            refine takeG 5 (some 66) (.pointer (some ⟨b, o + k' * 2, none⟩)) rfl rfl (by kernel_rfl) (by kernel_rfl) (by kernel_rfl) (fun _ _ _ h => h) (ans_plain (by rfl) (fun w _ => by unfold execOp; go_simp)) ?_
            simp only [Act.put, List.setIfInBounds_toArray, List.set_cons_zero, List.set_cons_succ]
            refine takeG 6 (some 67) (.pointer (some ⟨b, o + k' * 2 + 1, none⟩)) rfl rfl (by kernel_rfl) (by kernel_rfl) (by kernel_rfl) (fun _ _ _ h => h) (ans_plain (by rfl) (fun w _ => by unfold execOp; go_simp)) ?_
            simp only [Act.put, List.setIfInBounds_toArray, List.set_cons_zero, List.set_cons_succ]
            refine takeG 7 (some 68) (.slice p m q3) rfl rfl (by kernel_rfl) (by kernel_rfl) (by kernel_rfl) (fun _ _ _ h => h) (ans_plain (by rfl) (fun w h => by have hc := X1c w h; unfold execOp; go_simp)) ?_
            simp only [Act.put, List.setIfInBounds_toArray, List.set_cons_zero, List.set_cons_succ]
            refine fork2G 8 12 (by kernel_rfl) (fun v1 hv1 sv1 => ?_) (fun v1 hv1 sv1 => ?_)
            · refine opCallW 8 (some 69) 41 #[.tmp 61, .tmp 63, .tmp 68] #[42, 3, 26] #[dv D1 q1, .int .i64 ((k' : Int) + 1), .slice p m q3] rfl rfl rfl (by rfl) (by rfl) Tryz.call41 ?_
              refine (CWR.out v1 sv1 A2 (fun i hi => HN2.out i (Nat.le_trans (Below.size sv1) hi)) (R1.out.below sv1) (HB.out v1 sv1)).mono ?_
              rintro e v2 ⟨q2, rfl, R2, hb2⟩
              refine ⟨_, rfl, Grows.trans sv1 hb2, ?_⟩
              simp only [Act.put, List.setIfInBounds_toArray, List.set_cons_zero, List.set_cons_succ]
              refine takeG 9 (some 60) (.tuple #[dv D2 q2, .int .i64 z]) rfl rfl (by kernel_rfl) (by kernel_rfl) (by kernel_rfl) (fun _ _ _ h => h) (ans_plain (by rfl) (fun w _ => rfl)) ?_
              simp only [Act.put, List.setIfInBounds_toArray, List.set_cons_zero, List.set_cons_succ]
              refine takeG 10 (some 70) (dv D2 q2) rfl rfl (by kernel_rfl) (by kernel_rfl) (by kernel_rfl) (fun _ _ _ h => h) (ans_plain (by rfl) (fun w _ => by unfold execOp; go_simp)) ?_
              simp only [Act.put, List.setIfInBounds_toArray, List.set_cons_zero, List.set_cons_succ]
              refine takeG 11 (some 71) (.int .i64 z) rfl rfl (by kernel_rfl) (by kernel_rfl) (by kernel_rfl) (fun _ _ _ h => h) (ans_plain (by rfl) (fun w _ => by unfold execOp; go_simp)) ?_
              simp only [Act.put, List.setIfInBounds_toArray, List.set_cons_zero, List.set_cons_succ]
              refine alloc1 (fun _ _ h h2 => Grows.trans h h2) 12 19 ⟨_, rfl, rfl, rfl, fun ρ w => rfl⟩ (by kernel_rfl) fun g v5 hg5 sv5 Bg hgx => ?_
              have R2 := (RD.off R2 hgx).below hg5
              have hgw : wr.heap.size ≤ g := Nat.le_trans (Below.size (Grows.trans sv1 hb2)) hgx
              simp only [Act.put, List.setIfInBounds_toArray, List.set_cons_zero, List.set_cons_succ]
              refine oneG 13 (by kernel_rfl) fun v6 hg6 sv6 => ?_
              have R2 := R2.below hg6
              have Bg := Bg.below hg6 Bg.lt
              refine opStR 13 42 (.tmp 19) (.tmp 70) 10 rfl rfl rfl rfl g _ (dc D2 q2) 42 Bg rfl rfl (dc_one _ _) sizeDk rfl rfl fun v7 b9 k9 => ?_
              have hs9 : Grows wr v7 := Below.trans sv6 (k9.below (B := wr.heap.size) (Below.size sv6) (fun i hi e => by omega))
              have R2 := R2.kp k9 fun i hi e => hi.2 e
              refine ⟨hs9, ?_⟩
              refine takeG 14 (some 20) (.int .i64 z) rfl rfl (by kernel_rfl) (by kernel_rfl) (by kernel_rfl) (fun _ _ _ h => h) (ans_plain (by rfl) (fun w _ => rfl)) ?_
              simp only [Act.put, List.setIfInBounds_toArray, List.set_cons_zero, List.set_cons_succ]
              refine doneG (by kernel_rfl) fun v8 hgz hsz => ?_
              have M9 : Hid (MidA A2 wr v8 g D2 q2) := ⟨b9.below hgz b9.lt, (R2.mono fun i _ hi => hi.1).below hgz, hsz, hgw⟩
              clear R2 b9 k9 hs9 hgz hsz
              go_wp2_with fail
              go_meet
              case rel => exact ⟨g, q2, rfl, rfl, M9⟩
            · refine opMake (fun _ _ h h2 => Grows.trans h h2) ⟨_, rfl, rfl, rfl, fun ρ w => rfl⟩ sv1 fun g v3 hv3 sv3 Bg hgx => ?_
              have hgw : wr.heap.size ≤ g := Nat.le_trans (Below.size sv1) hgx
              simp only [Act.put, List.setIfInBounds_toArray, List.set_cons_zero, List.set_cons_succ]
              refine callG 8 (some 69) 41 #[.tmp 61, .tmp 63, .tmp 68] #[42, 3, 26] #[dv D1 q1, .int .i64 ((k' : Int) + 1), .slice p m q3] rfl rfl rfl (by rfl) (by rfl) (by kernel_rfl) Tryz.call41 fun v4 hv4 sv4 => ?_
              have Bg := Bg.below hv4 Bg.lt
              refine (CWR.out v4 sv4 (Off A2 g) (fun i hi => ⟨HN2.out i (Nat.le_trans (Below.size sv4) hi), by have := Bg.lt; omega⟩) ((RD.off R1.out hgw).below sv4) ((B5.off (HB.out wr (Below.refl _ _)) hgw).below sv4)).mono ?_
              rintro e v2 ⟨q2, rfl, R2, hb2⟩
              have Bg := Bg.below hb2 Bg.lt
              refine ⟨_, rfl, Grows.trans sv4 hb2, ?_⟩
              simp only [Act.put, List.setIfInBounds_toArray, List.set_cons_zero, List.set_cons_succ]
              refine takeG 9 (some 60) (.tuple #[dv D2 q2, .int .i64 z]) rfl rfl (by kernel_rfl) (by kernel_rfl) (by kernel_rfl) (fun _ _ _ h => h) (ans_plain (by rfl) (fun w _ => rfl)) ?_
              simp only [Act.put, List.setIfInBounds_toArray, List.set_cons_zero, List.set_cons_succ]
              refine takeG 10 (some 70) (dv D2 q2) rfl rfl (by kernel_rfl) (by kernel_rfl) (by kernel_rfl) (fun _ _ _ h => h) (ans_plain (by rfl) (fun w _ => by unfold execOp; go_simp)) ?_
              simp only [Act.put, List.setIfInBounds_toArray, List.set_cons_zero, List.set_cons_succ]
              refine takeG 11 (some 71) (.int .i64 z) rfl rfl (by kernel_rfl) (by kernel_rfl) (by kernel_rfl) (fun _ _ _ h => h) (ans_plain (by rfl) (fun w _ => by unfold execOp; go_simp)) ?_
              simp only [Act.put, List.setIfInBounds_toArray, List.set_cons_zero, List.set_cons_succ]
              refine oneG 13 (by kernel_rfl) fun v6 hg6 sv6 => ?_
              have R2 := R2.below hg6
              have Bg := Bg.below hg6 Bg.lt
              refine opStR 13 42 (.tmp 19) (.tmp 70) 10 rfl rfl rfl rfl g _ (dc D2 q2) 42 Bg rfl rfl (dc_one _ _) sizeDk rfl rfl fun v7 b9 k9 => ?_
              have hs9 : Grows wr v7 := Below.trans sv6 (k9.below (B := wr.heap.size) (Below.size sv6) (fun i hi e => by omega))
              have R2 := R2.kp k9 fun i hi e => hi.2 e
              refine ⟨hs9, ?_⟩
              refine takeG 14 (some 20) (.int .i64 z) rfl rfl (by kernel_rfl) (by kernel_rfl) (by kernel_rfl) (fun _ _ _ h => h) (ans_plain (by rfl) (fun w _ => rfl)) ?_
              simp only [Act.put, List.setIfInBounds_toArray, List.set_cons_zero, List.set_cons_succ]
              refine doneG (by kernel_rfl) fun v8 hgz hsz => ?_
              have M9 : Hid (MidA A2 wr v8 g D2 q2) := ⟨b9.below hgz b9.lt, (R2.mono fun i _ hi => hi.1).below hgz, hsz, hgw⟩
              clear R2 b9 k9 hs9 hgz hsz
              go_wp2_with fail
              go_meet
              case rel => exact ⟨g, q2, rfl, rfl, M9⟩
          case rest =>
            obtain ⟨gy, q2, rfl, rfl, M9⟩ := hcut
            have XC : Hid (Blk wc xX (dc D1 q1) 42) := X1.out.below M9.out.2.2.1 X1.out.lt
            clear X1 R1 F1 CWR HB HN2 hlb
            go_upto_region 13 with (first
              | ((with_reducible refine at_ld 42 ?_); (refine ld 42 (.tmp 19) 10 sizeDk _ Tryz.underlying42 rfl gy 0 (dc D2 q2) rfl M9.out.1.whole rfl ?_))
              | ((with_reducible refine at_st 42 ?_); (refine st' 42 (.tmp 17) (.tmp 72) 10 sizeDk xX 0 (dc D2 q2) rfl (dc_one _ _) (XC.out.there 0 10 (by simp [dc])) rfl rfl ?_); intro w8 hw8
                 have X8 : Hid (Blk w8 xX (dc D2 q2) 42) := by rw [hw8]; exact XC.out.setsW _ rfl
                 have K8 : Hid (Kp (fun j => j = xX) wc w8) := by rw [hw8]; exact Kp.sets wc xX _ 0
                 clear hw8))
            have I8 : Hid (WrI A2 w w8 xX xR xT g D2 q2 S2 d2 sa sn sc Z (some ⟨b, o, none⟩) n c l) := I1.out.next M9.out X8.out K8.out (fun j hj => (HB2.out j hj).2) HNE.out
            clear M9 XC K8 X8 I1
            by_cases z0 : z = 0
            · subst z0
              have EN3 : Hid (applyD D (logL Z l) = applyD D2 ((logL Z l).drop (k' + 1))) := by show _ = _; rw [EN2.out, if_pos rfl]
              clear EN2
              go_wp2_with fail
              go_roundw
              case rel => exact ⟨k' + 1, D2, q2, by omega, by go_num, I8, F2, EN3⟩
              case measure => simp [intOf]; omega
            · have HP3 : Hid (P = WrtR A (D2, z) S2 w) := by show P = _; rw [HP2.out, EN2.out, if_neg z0]
              have BX := Hid.mk' I8.out.x
              have BG := Hid.mk' I8.out.b
              have YR := Hid.mk' I8.out.r
              have YT := Hid.mk' I8.out.t
              have QF := Hid.mk' I8.out.bel
              have RDF := Hid.mk' I8.out.rd
              have RSF := Hid.mk' I8.out.rs
              have hne_BX : ¬ (xX = xR ∨ xX = xT) := by have := HNE.out; omega
              have hne_BG : ¬ (g = xR ∨ g = xT) := by have := HGE.out; omega
              clear EN2 HP2 I8
              go_wp2_with fail
              refine regionG (S := RetS w8 xR xT) (by kernel_rfl) (RetS.start YR.out YT.out) ?_
              refine takeG 0 (some 75) (dv D2 q2) rfl rfl (by kernel_rfl) (by kernel_rfl) (by kernel_rfl) (fun _ _ _ h => h) (ans_row 42 (.tmp 17) _ 10 rfl (by rfl) xX 0 rfl (dc D2 q2) (fun u h => (h.1.blk BX.out hne_BX).whole) Tryz.underlying42 rfl rfl sizeDk) ?_
              simp only [Act.put, List.setIfInBounds_toArray, List.set_cons_zero, List.set_cons_succ]
              refine takeG 1 (some 76) (rsV S2 d2) rfl rfl (by kernel_rfl) (by kernel_rfl) (by kernel_rfl) (fun _ _ _ h => h) (ans_row 54 (.tmp 14) _ 6 rfl (by rfl) g 0 rfl (rsC S2 d2) (fun u h => (h.1.blk BG.out hne_BG).whole) Tryz.underlying54 rfl rfl sizeRS) ?_
              simp only [Act.put, List.setIfInBounds_toArray, List.set_cons_zero, List.set_cons_succ]
              refine takeG 2 (some 77) (.int .i64 z) rfl rfl (by kernel_rfl) (by kernel_rfl) (by kernel_rfl) (fun _ _ _ h => h) (ans_plain (by rfl) (fun w _ => rfl)) ?_
              simp only [Act.put, List.setIfInBounds_toArray, List.set_cons_zero, List.set_cons_succ]
              refine oneG 3 (by kernel_rfl) fun u1 hg1 hs1 => ?_
              obtain ⟨kp1, ⟨vs1, hv1, bR1⟩, us1, hu1, bT1⟩ := hs1
              refine opStR 3 42 (.tmp 10) (.tmp 75) 10 rfl rfl rfl rfl xR vs1 (dc D2 q2) 42 bR1 hv1 rfl (dc_one _ _) sizeDk rfl rfl fun u2 b2 k2 => ?_
              have bT2 := k2.blk bT1 (fun e => by have := HX.out; omega)
              have kp2 : Kp (fun j => j = xR ∨ j = xT) w8 u2 := kp1.trans (k2.mono fun j _ e => Or.inl e)
              refine ⟨⟨kp2, ⟨_, rfl, b2⟩, us1, hu1, bT2⟩, ?_⟩
              refine oneG 4 (by kernel_rfl) fun u3 hg3 hs3 => ?_
              obtain ⟨kp3, _, us3, hu3, bT3⟩ := hs3
              have b3 := b2.below hg3 b2.lt
              refine opStR 4 54 (.tmp 11) (.tmp 76) 6 rfl rfl rfl rfl xT us3 (rsC S2 d2) 54 bT3 hu3 rfl (rsC_one _ _) sizeRS rfl rfl fun u4 b4 k4 => ?_
              have b4R := k4.blk b3 (fun e => by have := HX.out; omega)
              have kp4 : Kp (fun j => j = xR ∨ j = xT) w8 u4 := kp3.trans (k4.mono fun j _ e => Or.inr e)
              refine ⟨⟨kp4, ⟨_, rfl, b4R⟩, _, rfl, b4⟩, ?_⟩
              refine takeG 5 (some 12) (.int .i64 z) rfl rfl (by kernel_rfl) (by kernel_rfl) (by kernel_rfl) (fun _ _ _ h => h) (ans_plain (by rfl) (fun w _ => rfl)) ?_
              simp only [Act.put, List.setIfInBounds_toArray, List.set_cons_zero, List.set_cons_succ]
              refine doneG (by kernel_rfl) fun u5 hg5 hs5 => ?_
              have b5R : Hid (Blk u5 xR (dc D2 q2) 42) := b4R.below hg5 b4R.lt
              have b5T : Hid (Blk u5 xT (rsC S2 d2) 54) := b4.below hg5 b4.lt
              have kp5 : Hid (Kp (fun j => j = xR ∨ j = xT) w8 u5) := kp4.trans (Kp.of_below hg5)
              clear bR1 bT1 kp1 b2 k2 bT2 kp2 bT3 kp3 b3 b4 k4 b4R kp4 hg1 hg3 hg5 hs5
              go_wp2_with fail
              refine bodyPost_ret (v := .tuple #[dv D2 q2, rsV S2 d2, .int .i64 z]) (resDST Tryz.results15 _ _ xR (dc D2 q2).toArray rfl (run_loadVar_row u5 xR 42 42 (dc D2 q2).toArray (0, 0) _ b5R.out Tryz.underlying42 rfl sizeDk) xT (rsC S2 d2).toArray rfl (run_loadVar_row u5 xT 54 54 (rsC S2 d2).toArray (0, 0) _ b5T.out Tryz.underlying54 rfl sizeRS) _ rfl) rfl ?_
              rw [HP3.out]
              exact ⟨q2, d2, rfl, (RDF.out.kp kp5.out fun i hi e => by rcases e with e | e; exact (HB1.out i (HB2.out i hi).1).2.1 e; exact (HB1.out i (HB2.out i hi).1).2.2 e).mono fun i _ hi => (HB1.out i (HB2.out i hi).1).1, (RSF.out.kp kp5.out fun i hi e => by rcases e with e | e; exact (HB1.out i (HB2.out i hi).1).2.1 e; exact (HB1.out i (HB2.out i hi).1).2.2 e).mono fun i _ hi => (HB1.out i (HB2.out i hi).1).1, Kp.new QF.out kp5.out fun i e => by have := HX.out; omega⟩
        · have j0 : ¬ (k' : Int) < (n : Int) := by omega
          obtain rfl : k' = n := by omega
          have EN : Hid (applyD D (logL Z l) = applyD D1 [(0, pad Z)]) := by
            show _ = _
            rw [E1.out]
            have := logL_last Z l
            rw [HLN.out] at this
            rw [this]
          clear E1
          rename World => wb
          have O0 : Hid (Own wb wb.heap.size (.slice none 0 0) []) := Own.nil _ _
          have B0 : Hid (Bs wb sa sn sc Z) := I1.out.z.1
          have HZ0 : Hid (([] : List UInt8).length + Z.length ≤ 1000000000) := by show _ ≤ _; have := HZL.out; simp; omega
          have HSN : Hid (Z.length = sn) := B0.out.len
          go_upto_region 17 with (at_builtin; refine wpList_app wb rfl (.tmp 78) (.tmp 79) rfl wb.heap.size (.slice none 0 0) [] rfl O0.out sa sn sc Z rfl B0.out HZ0.out (Nat.le_refl _) ?_; intro v3 w3 o3 hb3; have O3 : Hid (Own w3 wb.heap.size v3 ([] ++ Z)) := o3; have G3 : Hid (Below wb.heap.size wb w3) := hb3; clear o3 hb3)
          obtain ⟨a3, c3, hv3, _⟩ := O3.out.bs
          subst hv3
          have O2 : Hid (Own w3 wb.heap.size (.slice a3 sn c3) (Z ++ List.replicate 0 0)) := by show Own _ _ _ _; have := O3.out; rw [List.nil_append, HSN.out] at this; simpa using this
          rw [List.nil_append, HSN.out]
          clear O3 O0 B0 HZ0
          go_loopw [21] (fun v wr => ∃ (j : Nat) (oa : Option Addr) (on oc : Nat), sn + j ≤ 512 ∧ Hid (on = sn + j) ∧ v = .slice oa on oc ∧ Hid (Own wr wb.heap.size (.slice oa on oc) (Z ++ List.replicate j 0)) ∧ Hid (Below wb.heap.size wb wr)) (fun v _ => 512 - lenV16 v)
          case atStart => exact ⟨0, a3, sn, c3, hsn, rfl, rfl, O2, G3⟩
          case round =>
            obtain ⟨j, oa, on, oc, hj, hon, rfl, ho, hb⟩ := hrel
            clear O2 G3
            by_cases hlt : on < 512
            · have i0 : (on : Int) < 512 := by omega
              have HX : Hid (Bs (wr.alloc (.cells #[.int .u8 0] 5)) (some ⟨wr.heap.size, 0, none⟩) 1 1 [0]) := Bs.made wr [0] _ rfl (by decide)
              have HO2 : Hid (Own (wr.alloc (.cells #[.int .u8 0] 5)) wb.heap.size (.slice oa on oc) (Z ++ List.replicate j 0)) := ho.out.below (below_alloc wr _) (Nat.le_refl _)
              have HB2' : Hid (Below wb.heap.size wb (wr.alloc (.cells #[.int .u8 0] 5))) := hb.out.trans ((below_alloc wr _).mono hb.out.size)
              have HR : Hid ((Z ++ List.replicate j (0 : UInt8)).length + [(0 : UInt8)].length ≤ 1000000000) := by show _ ≤ _; simp [HSN.out]; omega
              have HSZ : Hid (wb.heap.size ≤ (wr.alloc (.cells #[.int .u8 0] 5)).heap.size) := HB2'.out.size
              clear ho
              go_wp2_with (at_builtin; refine wpList_app (wr.alloc (.cells #[.int .u8 0] 5)) rfl (.tmp 84) (.tmp 85) rfl wb.heap.size (.slice oa on oc) _ rfl HO2.out (some ⟨wr.heap.size, 0, none⟩) 1 1 [0] rfl HX.out HR.out HSZ.out ?_; intro v4 w4 o4 hb4; have O4 : Hid (Own w4 wb.heap.size v4 (Z ++ List.replicate (j + 1) 0)) := (by rw [List.append_assoc, ← List.replicate_succ'] at o4; exact o4); clear o4)
              obtain ⟨oa4, oc4, hv4, _⟩ := O4.out.bs
              subst hv4
              have hl4 : (Z ++ List.replicate (j + 1) (0 : UInt8)).length = on + 1 := by have := hon.out; simp [HSN.out]; omega
              rw [hl4] at O4 ⊢
              go_roundw
              case rel => exact ⟨j + 1, oa4, on + 1, oc4, by have := hon.out; omega, by show _ = _; have := hon.out; omega, rfl, O4, HB2'.out.trans hb4⟩
              case measure => simp [lenV16]; omega
            · have i0 : ¬ (on : Int) < 512 := by omega
              have h512 : on = 512 := by have := hon.out; omega
              have HPD : Hid (Z ++ List.replicate j 0 = pad Z) := by
                show _ = _
                unfold pad
                rw [HSN.out, show 512 - sn = j from by have := hon.out; omega]
              rw [HPD.out] at ho
              subst h512
              have I2 : Hid (WrI A2 w wr xX xR xT g D1 q1 S2 d2 sa sn sc Z a k' c l) := I1.out.grow hb.out
              have H5 : Hid (B5 A2 wr oa 512 oc (pad Z)) := ho.out.b5 fun i hi _ => HN2.out i hi
              have HN3 : Hid (∀ i, wr.heap.size ≤ i → A2 i) := fun i hi => HN2.out i (Nat.le_trans hb.out.size hi)
              have F2 : Hid ((D1.write 0 (pad Z)).1.fit (mm + 3 * k' + 3)) := F1.out.a_write 0 (pad Z)
              obtain ⟨D2, hD2⟩ : ∃ D2, D2 = (D1.write 0 (pad Z)).1 := ⟨_, rfl⟩
              obtain ⟨z, hz⟩ : ∃ z, z = (D1.write 0 (pad Z)).2 := ⟨_, rfl⟩
              have CW : Hid (Calls Tryz.prog 41 #[dv D1 q1, .int .i64 0, .slice oa 512 oc] wr fun e w' => ∃ q', e = .returned (.tuple #[dv D2 q', .int .i64 z]) ∧ RD A2 w' D2 q' ∧ Below wr.heap.size wr w') := by
                show Calls _ _ _ _ _
                rw [hD2, hz]
                exact rWrite wr I2.out.rd HN3.out F1.out (by omega) 0 (by constructor <;> omega) H5.out
              have EN2 : Hid (applyD D (logL Z l) = if z = 0 then (D2.flushed, if D2.p.ok then 0 else 5) else (D2, z)) := by
                show _ = _
                rw [EN.out, hD2, hz]
                rfl
              rw [← hD2] at F2
              clear hD2 hz EN F1 ho hb HPD hon I1 H5
              go_upto_region 19 with fail
              go_wp2_with ((with_reducible refine at_ld 42 ?_); (refine ld 42 (.tmp 17) 10 sizeDk _ Tryz.underlying42 rfl xX 0 (dc D1 q1) rfl I2.out.x.whole rfl ?_))
              refine CW.out.mono ?_
              rintro x w5 ⟨q2, rfl, r5, hb5⟩
              have I5 : Hid (WrI A2 w w5 xX xR xT g D1 q1 S2 d2 sa sn sc Z a k' c l) := I2.out.grow hb5
              have R5 : Hid (RD A2 w5 D2 q2) := r5
              have HN5 : Hid (∀ i, w5.heap.size ≤ i → A2 i) := fun i hi => HN3.out i (Nat.le_trans hb5.size hi)
              clear r5 hb5 CW I2 HN3
              have z7 : Blk (w5.alloc (.cells #[.int .i64 0, .int .i64 0, .bool false, .bool false, .int .i64 0, .slice none 0 0, .slice none 0 0, .slice none 0 0, .slice none 0 0, .int .i64 0] 42)) w5.heap.size z40 42 := Blk.newAt w5 _ _ w5.heap.size rfl _ rfl
              have k7 : Below w5.heap.size w5 (w5.alloc (.cells #[.int .i64 0, .int .i64 0, .bool false, .bool false, .int .i64 0, .slice none 0 0, .slice none 0 0, .slice none 0 0, .slice none 0 0, .int .i64 0] 42)) := below_alloc _ _
              go_upto_region 20 with ((with_reducible refine at_st 42 ?_); (refine st' 42 (.tmp 22) (.tmp 91) 10 sizeDk w5.heap.size 0 (dc D2 q2) rfl (dc_one _ _) (z7.there 0 10 (by simp [z40])) rfl rfl ?_); intro w6 hw6; have X6 : Hid (Blk w6 w5.heap.size (dc D2 q2) 42) := (by rw [hw6]; exact z7.setsW _ rfl); have K6 : Hid (Below w5.heap.size w5 w6) := (by rw [hw6]; exact below_sets (Nat.le_refl _) _ k7 0); clear hw6)
              clear z7 k7
              obtain ⟨xY, hxY⟩ : ∃ x, x = w5.heap.size := ⟨_, rfl⟩
              have I6 : Hid (WrI A2 w w6 xX xR xT g D1 q1 S2 d2 sa sn sc Z a k' c l) := I5.out.grow K6.out
              have HNY : Hid (xY ≠ xR ∧ xY ≠ xT) := ⟨by have := I5.out.r.lt; omega, by have := I5.out.t.lt; omega⟩
              have R6 : Hid (RD A2 w6 D2 q2) := R5.out.below K6.out
              have HN6 : Hid (∀ i, w6.heap.size ≤ i → A2 i) := fun i hi => HN5.out i (Nat.le_trans K6.out.size hi)
              rw [← hxY] at X6 ⊢
              clear hxY I5 R5 HN5 K6
              have hne_BG : ¬ (g = xR ∨ g = xT) := by have := HGE.out; omega
              by_cases z0 : z = 0
              · subst z0
                have EN3 : Hid (applyD D (logL Z l) = (D2.flushed, if D2.p.ok then 0 else 5)) := by show _ = _; rw [EN2.out, if_pos rfl]
                obtain ⟨D3, hD3⟩ : ∃ D3, D3 = D2.flushed := ⟨_, rfl⟩
                obtain ⟨z, hz⟩ : ∃ z : Int, z = if D2.p.ok then 0 else 5 := ⟨_, rfl⟩
                have CF : Hid (Calls Tryz.prog 42 #[dv D2 q2] w6 fun e w' => ∃ q', e = .returned (.tuple #[dv D3 q', .int .i64 z]) ∧ RD A2 w' D3 q' ∧ Below w6.heap.size w6 w') := by
                  show Calls _ _ _ _ _
                  rw [hD3, hz]
                  exact rFlush w6 R6.out HN6.out F2.out (by omega)
                have HP3 : Hid (P = WrtR A (D3, z) S2 w) := by show P = _; rw [HP2.out, EN3.out, hD3, hz]
                clear hD3 hz EN2 EN3 HP2
                go_wp2_with ((with_reducible refine at_ld 42 ?_); (refine ld 42 (.tmp 22) 10 sizeDk _ Tryz.underlying42 rfl xY 0 (dc D2 q2) rfl X6.out.whole rfl ?_))
                refine CF.out.mono ?_
                rintro x w7 ⟨q3, rfl, r7, hb7⟩
                have I7 : Hid (WrI A2 w w7 xX xR xT g D1 q1 S2 d2 sa sn sc Z a k' c l) := I6.out.grow hb7
                have R7 : Hid (RD A2 w7 D3 q3) := r7
                clear r7 hb7 CF I6 X6 R6 HN6
                have z7 : Blk (w7.alloc (.cells #[.int .i64 0, .int .i64 0, .bool false, .bool false, .int .i64 0, .slice none 0 0, .slice none 0 0, .slice none 0 0, .slice none 0 0, .int .i64 0] 42)) w7.heap.size z40 42 := Blk.newAt w7 _ _ w7.heap.size rfl _ rfl
                have k7 : Below w7.heap.size w7 (w7.alloc (.cells #[.int .i64 0, .int .i64 0, .bool false, .bool false, .int .i64 0, .slice none 0 0, .slice none 0 0, .slice none 0 0, .slice none 0 0, .int .i64 0] 42)) := below_alloc _ _
                go_upto_region 23 with ((with_reducible refine at_st 42 ?_); (refine st' 42 (.tmp 24) (.tmp 101) 10 sizeDk w7.heap.size 0 (dc D3 q3) rfl (dc_one _ _) (z7.there 0 10 (by simp [z40])) rfl rfl ?_); intro w8 hw8; have X8 : Hid (Blk w8 w7.heap.size (dc D3 q3) 42) := (by rw [hw8]; exact z7.setsW _ rfl); have K8 : Hid (Below w7.heap.size w7 w8) := (by rw [hw8]; exact below_sets (Nat.le_refl _) _ k7 0); clear hw8)
                clear z7 k7
                obtain ⟨xZ, hxZ⟩ : ∃ x, x = w7.heap.size := ⟨_, rfl⟩
                have I8 : Hid (WrI A2 w w8 xX xR xT g D1 q1 S2 d2 sa sn sc Z a k' c l) := I7.out.grow K8.out
                have hne_BX : ¬ (xZ = xR ∨ xZ = xT) := by have := I7.out.r.lt; have := I7.out.t.lt; omega
                rw [← hxZ] at X8 ⊢
                have BX : Hid (Blk w8 xZ (dc D3 q3) 42) := X8
                have BG := Hid.mk' I8.out.b
                have YR := Hid.mk' I8.out.r
                have YT := Hid.mk' I8.out.t
                have QF := Hid.mk' I8.out.bel
                have RDF : Hid (RD A2 w8 D3 q3) := R7.out.below K8.out
                have RSF := Hid.mk' I8.out.rs
                clear hxZ I7 R7 I8 X8 K8
                go_wp2_with fail
                refine regionG (S := RetS w8 xR xT) (by kernel_rfl) (RetS.start YR.out YT.out) ?_
                refine takeG 0 (some 103) (dv D3 q3) rfl rfl (by kernel_rfl) (by kernel_rfl) (by kernel_rfl) (fun _ _ _ h => h) (ans_row 42 (.tmp 24) _ 10 rfl (by rfl) xZ 0 rfl (dc D3 q3) (fun u h => (h.1.blk BX.out hne_BX).whole) Tryz.underlying42 rfl rfl sizeDk) ?_
                simp only [Act.put, List.setIfInBounds_toArray, List.set_cons_zero, List.set_cons_succ]
                refine takeG 1 (some 104) (rsV S2 d2) rfl rfl (by kernel_rfl) (by kernel_rfl) (by kernel_rfl) (fun _ _ _ h => h) (ans_row 54 (.tmp 14) _ 6 rfl (by rfl) g 0 rfl (rsC S2 d2) (fun u h => (h.1.blk BG.out hne_BG).whole) Tryz.underlying54 rfl rfl sizeRS) ?_
                simp only [Act.put, List.setIfInBounds_toArray, List.set_cons_zero, List.set_cons_succ]
                refine takeG 2 (some 105) (.int .i64 z) rfl rfl (by kernel_rfl) (by kernel_rfl) (by kernel_rfl) (fun _ _ _ h => h) (ans_plain (by rfl) (fun w _ => rfl)) ?_
                simp only [Act.put, List.setIfInBounds_toArray, List.set_cons_zero, List.set_cons_succ]
                refine oneG 3 (by kernel_rfl) fun u1 hg1 hs1 => ?_
                obtain ⟨kp1, ⟨vs1, hv1, bR1⟩, us1, hu1, bT1⟩ := hs1
                refine opStR 3 42 (.tmp 10) (.tmp 103) 10 rfl rfl rfl rfl xR vs1 (dc D3 q3) 42 bR1 hv1 rfl (dc_one _ _) sizeDk rfl rfl fun u2 b2 k2 => ?_
                have bT2 := k2.blk bT1 (fun e => by have := HX.out; omega)
                have kp2 : Kp (fun j => j = xR ∨ j = xT) w8 u2 := kp1.trans (k2.mono fun j _ e => Or.inl e)
                refine ⟨⟨kp2, ⟨_, rfl, b2⟩, us1, hu1, bT2⟩, ?_⟩
                refine oneG 4 (by kernel_rfl) fun u3 hg3 hs3 => ?_
                obtain ⟨kp3, _, us3, hu3, bT3⟩ := hs3
                have b3 := b2.below hg3 b2.lt
                refine opStR 4 54 (.tmp 11) (.tmp 104) 6 rfl rfl rfl rfl xT us3 (rsC S2 d2) 54 bT3 hu3 rfl (rsC_one _ _) sizeRS rfl rfl fun u4 b4 k4 => ?_
                have b4R := k4.blk b3 (fun e => by have := HX.out; omega)
                have kp4 : Kp (fun j => j = xR ∨ j = xT) w8 u4 := kp3.trans (k4.mono fun j _ e => Or.inr e)
                refine ⟨⟨kp4, ⟨_, rfl, b4R⟩, _, rfl, b4⟩, ?_⟩
                refine takeG 5 (some 12) (.int .i64 z) rfl rfl (by kernel_rfl) (by kernel_rfl) (by kernel_rfl) (fun _ _ _ h => h) (ans_plain (by rfl) (fun w _ => rfl)) ?_
                simp only [Act.put, List.setIfInBounds_toArray, List.set_cons_zero, List.set_cons_succ]
                refine doneG (by kernel_rfl) fun u5 hg5 hs5 => ?_
                have b5R : Hid (Blk u5 xR (dc D3 q3) 42) := b4R.below hg5 b4R.lt
                have b5T : Hid (Blk u5 xT (rsC S2 d2) 54) := b4.below hg5 b4.lt
                have kp5 : Hid (Kp (fun j => j = xR ∨ j = xT) w8 u5) := kp4.trans (Kp.of_below hg5)
                clear bR1 bT1 kp1 b2 k2 bT2 kp2 bT3 kp3 b3 b4 k4 b4R kp4 hg1 hg3 hg5 hs5
                go_wp2_with fail
                refine bodyPost_ret (v := .tuple #[dv D3 q3, rsV S2 d2, .int .i64 z]) (resDST Tryz.results15 _ _ xR (dc D3 q3).toArray rfl (run_loadVar_row u5 xR 42 42 (dc D3 q3).toArray (0, 0) _ b5R.out Tryz.underlying42 rfl sizeDk) xT (rsC S2 d2).toArray rfl (run_loadVar_row u5 xT 54 54 (rsC S2 d2).toArray (0, 0) _ b5T.out Tryz.underlying54 rfl sizeRS) _ rfl) rfl ?_
                rw [HP3.out]
                exact ⟨q3, d2, rfl, (RDF.out.kp kp5.out fun i hi e => by rcases e with e | e; exact (HB1.out i (HB2.out i hi).1).2.1 e; exact (HB1.out i (HB2.out i hi).1).2.2 e).mono fun i _ hi => (HB1.out i (HB2.out i hi).1).1, (RSF.out.kp kp5.out fun i hi e => by rcases e with e | e; exact (HB1.out i (HB2.out i hi).1).2.1 e; exact (HB1.out i (HB2.out i hi).1).2.2 e).mono fun i _ hi => (HB1.out i (HB2.out i hi).1).1, Kp.new QF.out kp5.out fun i e => by have := HX.out; omega⟩
              · have HP3 : Hid (P = WrtR A (D2, z) S2 w) := by show P = _; rw [HP2.out, EN2.out, if_neg z0]
                have BX : Hid (Blk w6 xY (dc D2 q2) 42) := X6
                have BG := Hid.mk' I6.out.b
                have YR := Hid.mk' I6.out.r
                have YT := Hid.mk' I6.out.t
                have QF := Hid.mk' I6.out.bel
                have RDF : Hid (RD A2 w6 D2 q2) := R6
                have RSF := Hid.mk' I6.out.rs
                have hne_BX : ¬ (xY = xR ∨ xY = xT) := by have := HNY.out; omega
                clear EN2 HP2 I6
                go_wp2_with fail
                refine regionG (S := RetS w6 xR xT) (by kernel_rfl) (RetS.start YR.out YT.out) ?_
                refine takeG 0 (some 95) (dv D2 q2) rfl rfl (by kernel_rfl) (by kernel_rfl) (by kernel_rfl) (fun _ _ _ h => h) (ans_row 42 (.tmp 22) _ 10 rfl (by rfl) xY 0 rfl (dc D2 q2) (fun u h => (h.1.blk BX.out hne_BX).whole) Tryz.underlying42 rfl rfl sizeDk) ?_
                simp only [Act.put, List.setIfInBounds_toArray, List.set_cons_zero, List.set_cons_succ]
                refine takeG 1 (some 96) (rsV S2 d2) rfl rfl (by kernel_rfl) (by kernel_rfl) (by kernel_rfl) (fun _ _ _ h => h) (ans_row 54 (.tmp 14) _ 6 rfl (by rfl) g 0 rfl (rsC S2 d2) (fun u h => (h.1.blk BG.out hne_BG).whole) Tryz.underlying54 rfl rfl sizeRS) ?_
                simp only [Act.put, List.setIfInBounds_toArray, List.set_cons_zero, List.set_cons_succ]
                refine takeG 2 (some 97) (.int .i64 z) rfl rfl (by kernel_rfl) (by kernel_rfl) (by kernel_rfl) (fun _ _ _ h => h) (ans_plain (by rfl) (fun w _ => rfl)) ?_
                simp only [Act.put, List.setIfInBounds_toArray, List.set_cons_zero, List.set_cons_succ]
                refine oneG 3 (by kernel_rfl) fun u1 hg1 hs1 => ?_
                obtain ⟨kp1, ⟨vs1, hv1, bR1⟩, us1, hu1, bT1⟩ := hs1
                refine opStR 3 42 (.tmp 10) (.tmp 95) 10 rfl rfl rfl rfl xR vs1 (dc D2 q2) 42 bR1 hv1 rfl (dc_one _ _) sizeDk rfl rfl fun u2 b2 k2 => ?_
                have bT2 := k2.blk bT1 (fun e => by have := HX.out; omega)
                have kp2 : Kp (fun j => j = xR ∨ j = xT) w6 u2 := kp1.trans (k2.mono fun j _ e => Or.inl e)
                refine ⟨⟨kp2, ⟨_, rfl, b2⟩, us1, hu1, bT2⟩, ?_⟩
                refine oneG 4 (by kernel_rfl) fun u3 hg3 hs3 => ?_
                obtain ⟨kp3, _, us3, hu3, bT3⟩ := hs3
                have b3 := b2.below hg3 b2.lt
                refine opStR 4 54 (.tmp 11) (.tmp 96) 6 rfl rfl rfl rfl xT us3 (rsC S2 d2) 54 bT3 hu3 rfl (rsC_one _ _) sizeRS rfl rfl fun u4 b4 k4 => ?_
                have b4R := k4.blk b3 (fun e => by have := HX.out; omega)
                have kp4 : Kp (fun j => j = xR ∨ j = xT) w6 u4 := kp3.trans (k4.mono fun j _ e => Or.inr e)
                refine ⟨⟨kp4, ⟨_, rfl, b4R⟩, _, rfl, b4⟩, ?_⟩
                refine takeG 5 (some 12) (.int .i64 z) rfl rfl (by kernel_rfl) (by kernel_rfl) (by kernel_rfl) (fun _ _ _ h => h) (ans_plain (by rfl) (fun w _ => rfl)) ?_
                simp only [Act.put, List.setIfInBounds_toArray, List.set_cons_zero, List.set_cons_succ]
                refine doneG (by kernel_rfl) fun u5 hg5 hs5 => ?_
                have b5R : Hid (Blk u5 xR (dc D2 q2) 42) := b4R.below hg5 b4R.lt
                have b5T : Hid (Blk u5 xT (rsC S2 d2) 54) := b4.below hg5 b4.lt
                have kp5 : Hid (Kp (fun j => j = xR ∨ j = xT) w6 u5) := kp4.trans (Kp.of_below hg5)
                clear bR1 bT1 kp1 b2 k2 bT2 kp2 bT3 kp3 b3 b4 k4 b4R kp4 hg1 hg3 hg5 hs5
                go_wp2_with fail
                refine bodyPost_ret (v := .tuple #[dv D2 q2, rsV S2 d2, .int .i64 z]) (resDST Tryz.results15 _ _ xR (dc D2 q2).toArray rfl (run_loadVar_row u5 xR 42 42 (dc D2 q2).toArray (0, 0) _ b5R.out Tryz.underlying42 rfl sizeDk) xT (rsC S2 d2).toArray rfl (run_loadVar_row u5 xT 54 54 (rsC S2 d2).toArray (0, 0) _ b5T.out Tryz.underlying54 rfl sizeRS) _ rfl) rfl ?_
                rw [HP3.out]
                exact ⟨q2, d2, rfl, (RDF.out.kp kp5.out fun i hi e => by rcases e with e | e; exact (HB1.out i (HB2.out i hi).1).2.1 e; exact (HB1.out i (HB2.out i hi).1).2.2 e).mono fun i _ hi => (HB1.out i (HB2.out i hi).1).1, (RSF.out.kp kp5.out fun i hi e => by rcases e with e | e; exact (HB1.out i (HB2.out i hi).1).2.1 e; exact (HB1.out i (HB2.out i hi).1).2.2 e).mono fun i _ hi => (HB1.out i (HB2.out i hi).1).1, Kp.new QF.out kp5.out fun i e => by have := HX.out; omega⟩
  · have HP2 : Hid (P = WrtR A (D, cc) S w) := by
      show P = _
      rw [HP.out, HCC.out]
      have h1 := HCC.out
      unfold chkE at h1 ⊢
      unfold wrtD wrtS
      by_cases hE0 : e < 0
      · rw [if_pos hE0, if_pos hE0, if_pos hE0]
      · rw [if_neg hE0] at h1
        have h2 : ¬ chkL l = 0 := fun hh => c0 (by rw [h1, hh])
        rw [if_neg hE0, if_neg h2, if_neg hE0, if_neg h2, if_neg hE0]
    have hne_BD1 : ¬ (xd = xR ∨ xd = xT) := by have := HX.out; omega
    have hne_BS1 : ¬ (xs = xR ∨ xs = xT) := by have := HX.out; omega
    clear HP HCC
    go_wp2_with fail
    refine regionG (S := RetS wr xR xT) (by kernel_rfl) (RetS.start BR1.out BT1.out) ?_
    refine takeG 0 (some 31) (dv D q) rfl rfl (by kernel_rfl) (by kernel_rfl) (by kernel_rfl) (fun _ _ _ h => h) (ans_row 42 (.tmp 5) _ 10 rfl (by rfl) xd 0 rfl (dc D q) (fun u h => (h.1.blk BD1.out hne_BD1).whole) Tryz.underlying42 rfl rfl sizeDk) ?_
    simp only [Act.put, List.setIfInBounds_toArray, List.set_cons_zero, List.set_cons_succ]
    refine takeG 1 (some 32) (rsV S d) rfl rfl (by kernel_rfl) (by kernel_rfl) (by kernel_rfl) (fun _ _ _ h => h) (ans_row 54 (.tmp 6) _ 6 rfl (by rfl) xs 0 rfl (rsC S d) (fun u h => (h.1.blk BS1.out hne_BS1).whole) Tryz.underlying54 rfl rfl sizeRS) ?_
    simp only [Act.put, List.setIfInBounds_toArray, List.set_cons_zero, List.set_cons_succ]
    refine takeG 2 (some 33) (.int .i64 cc) rfl rfl (by kernel_rfl) (by kernel_rfl) (by kernel_rfl) (fun _ _ _ h => h) (ans_plain (by rfl) (fun w _ => rfl)) ?_
    simp only [Act.put, List.setIfInBounds_toArray, List.set_cons_zero, List.set_cons_succ]
    refine oneG 3 (by kernel_rfl) fun u1 hg1 hs1 => ?_
    obtain ⟨kp1, ⟨vs1, hv1, bR1⟩, us1, hu1, bT1⟩ := hs1
    refine opStR 3 42 (.tmp 10) (.tmp 31) 10 rfl rfl rfl rfl xR vs1 (dc D q) 42 bR1 hv1 rfl (dc_one _ _) sizeDk rfl rfl fun u2 b2 k2 => ?_
    have bT2 := k2.blk bT1 (fun e => by have := HX.out; omega)
    have kp2 : Kp (fun j => j = xR ∨ j = xT) wr u2 := kp1.trans (k2.mono fun j _ e => Or.inl e)
    refine ⟨⟨kp2, ⟨_, rfl, b2⟩, us1, hu1, bT2⟩, ?_⟩
    refine oneG 4 (by kernel_rfl) fun u3 hg3 hs3 => ?_
    obtain ⟨kp3, _, us3, hu3, bT3⟩ := hs3
    have b3 := b2.below hg3 b2.lt
    refine opStR 4 54 (.tmp 11) (.tmp 32) 6 rfl rfl rfl rfl xT us3 (rsC S d) 54 bT3 hu3 rfl (rsC_one _ _) sizeRS rfl rfl fun u4 b4 k4 => ?_
    have b4R := k4.blk b3 (fun e => by have := HX.out; omega)
    have kp4 : Kp (fun j => j = xR ∨ j = xT) wr u4 := kp3.trans (k4.mono fun j _ e => Or.inr e)
    refine ⟨⟨kp4, ⟨_, rfl, b4R⟩, _, rfl, b4⟩, ?_⟩
    refine takeG 5 (some 12) (.int .i64 cc) rfl rfl (by kernel_rfl) (by kernel_rfl) (by kernel_rfl) (fun _ _ _ h => h) (ans_plain (by rfl) (fun w _ => rfl)) ?_
    simp only [Act.put, List.setIfInBounds_toArray, List.set_cons_zero, List.set_cons_succ]
    refine doneG (by kernel_rfl) fun u5 hg5 hs5 => ?_
    have b5R : Hid (Blk u5 xR (dc D q) 42) := b4R.below hg5 b4R.lt
    have b5T : Hid (Blk u5 xT (rsC S d) 54) := b4.below hg5 b4.lt
    have kp5 : Hid (Kp (fun j => j = xR ∨ j = xT) wr u5) := kp4.trans (Kp.of_below hg5)
    clear bR1 bT1 kp1 b2 k2 bT2 kp2 bT3 kp3 b3 b4 k4 b4R kp4 hg1 hg3 hg5 hs5
    go_wp2_with fail
    refine bodyPost_ret (v := .tuple #[dv D q, rsV S d, .int .i64 cc]) (resDST Tryz.results15 _ _ xR (dc D q).toArray rfl (run_loadVar_row u5 xR 42 42 (dc D q).toArray (0, 0) _ b5R.out Tryz.underlying42 rfl sizeDk) xT (rsC S d).toArray rfl (run_loadVar_row u5 xT 54 54 (rsC S d).toArray (0, 0) _ b5T.out Tryz.underlying54 rfl sizeRS) _ rfl) rfl ?_
    rw [HP2.out]
    exact ⟨q, d, rfl, (RD1.out.kp kp5.out fun i hi e => by rcases e with e | e; exact (HB1.out i hi).2.1 e; exact (HB1.out i hi).2.2 e).mono fun i _ hi => (HB1.out i hi).1, (RS1.out.kp kp5.out fun i hi e => by rcases e with e | e; exact (HB1.out i hi).2.1 e; exact (HB1.out i hi).2.2 e).mono fun i _ hi => (HB1.out i hi).1, Kp.new Q1.out kp5.out fun i e => by have := HX.out; omega⟩

end Go.Proofs.YtlenmkhmkommcaaGreat
