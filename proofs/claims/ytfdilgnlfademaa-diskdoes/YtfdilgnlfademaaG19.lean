/-
  1 texts in one. No statement of the seat is proved here.
-/
import Derived.Test.YtfdilgnlfademaaG18

/-
  A region that draws its order and makes a variable while a call writes: whichever comes first; what layer 9's first statement has behind an act. No condition.
-/
namespace Go.Proofs.Ytfdilgnlfademaa
open Go.RowKit

/-- One of two. -/
theorem forkE {P : Program} {ops : Array Oper} {Q : Exit → Act → World → Prop} {md : Region.Mode} {S : World → Prop} {e : Nat} (i j : Nat) {fuel : Nat} {listed : Array Bool} {a : Act} {w : World} (hr : Region.ready md ops listed = [i, j]) (he : listed.getD e true = false)
    (hi : ∀ w', Grows w w' → S w' → wpOp P ops Q i (fun a' w'' => S w'' ∧ wpAnyE P md ops Q S e fuel (listed.setIfInBounds i true) a' w'') a w')
    (hj : ∀ w', Grows w w' → S w' → wpOp P ops Q j (fun a' w'' => S w'' ∧ wpAnyE P md ops Q S e fuel (listed.setIfInBounds j true) a' w'') a w') : wpAnyE P md ops Q S e (fuel + 1) listed a w :=
  fun w' hg hS => ⟨fun h0 => (by rw [h0] at hr; cases hr), fun x hx => by
    rw [hr] at hx
    rcases List.mem_cons.1 hx with rfl | hx
    · exact wpOp_mono (fun _ _ hh => ⟨Or.inr hh.1, hh.2⟩) (hi w' hg (hS.got he))
    · rw [List.mem_singleton.1 hx]
      exact wpOp_mono (fun _ _ hh => ⟨Or.inr hh.1, hh.2⟩) (hj w' hg (hS.got he))⟩
/-- A call by its contract, as one operation. -/
theorem opCall {ops : Array Oper} {Q : Exit → Act → World → Prop} (i : Nat) (d : Option Tmp) (f : FuncId) (args : Array Operand) (tys : Array TypeId) (vs : Array Value) {oi : Oper} {K : Act → World → Prop} {a : Act} {w : World} (hi : ops[i]? = some oi) (hd : oi.dst = d)
    (ho : oi.op = .call { callee := .value (.func f), args := args, argTypes := tys }) (hw : Region.wanted oi (yielded ops a.tmps) = true) (hv : (args.toList.map a.eval).toArray = vs) (hc : ∀ vs w, (callFunc f vs).run Try.prog w = .ok (.enter f vs) w)
    (h : Calls Try.prog f vs w fun x w' => ∃ v, x = .returned v ∧ K (a.put d v) w') : wpOp Try.prog ops Q i K a w := by
  subst hd
  have hv' : args.map a.eval = vs := by rw [← hv]; apply Array.toList_inj.1; rw [Array.toList_map]
  subst hv'
  unfold wpOp
  simp only [hi]
  rw [if_pos hw]
  left
  unfold Oper.wp
  have hx : (execOp a.eval oi).run Try.prog w = .ok (.enter f (args.map a.eval)) w := by simp [execOp, ho, resolve, invoke, Act.eval, Deferred.ofValue, hc]
  rw [hx, Oper.upon_enter]
  refine h.mono ?_
  rintro x w' ⟨v, rfl, hh⟩
  exact hh
/-- Behind an act, its answer in a variable of its own, g. -/
structure Aft (w0 wx : World) (X g d r mm : Nat) (U F : Nat → Prop) (D D1 : DskS) (q q1 : Quad) : Prop where
  sta : StaD w0 wx d r U F D1
  xu : ¬ U X
  xw : w0.heap.size ≤ X
  bx : Blk wx X (dc D q) 40
  bg : Blk wx g (dc D1 q1) 40
  rd : RD (fun j => ¬ F j ∧ ¬ j = X) wx D1 q1
  fd : D1.fit mm
theorem Aft.mk' {w0 u1 u2 u4 u5 u6 : World} {X g d r mm : Nat} {U F U2 F2 : Nat → Prop} {D D1 : DskS} {q q1 : Quad} (T : Two w0 u1 X d r mm U F D D q) (hd2 : Dk U2 F2 u2 d r D1) (hr2 : RD (fun j => (¬ F2 j ∧ ¬ j = X) ∧ ¬ j = g) u2 D1 q1) (hU2 : Next u1 U U2) (hk2 : Kp F u1 u2) (f1 : D1.fit (mm + 3))
    (hgU : ¬ U2 g) (hgw : w0.heap.size ≤ g) (hgX : ¬ g = X) (h24 : Grows u2 u4) (b5 : Blk u5 g (dc D1 q1) 40) (q5 : Kp (fun j => j = g) u4 u5) (h56 : Grows u5 u6) : Aft w0 u6 X g d r (mm + 3) U2 F2 D D1 q q1 := by
  have hX : ¬ U2 X := fun h => by
    rcases hU2 X h with h | h
    · exact T.xu h
    · have := T.bx.lt
      omega
  have s2 := (T.sta.after hd2 hU2 hk2).grow h24
  have bx2 := hk2.blk T.bx T.xf
  have bx4 := bx2.below h24 bx2.lt
  have bx5 := q5.blk bx4 (fun e => hgX e.symm)
  have s5 : StaD w0 u5 d r U2 F2 D1 := ⟨s2.dk.keep q5 fun j hj e => hgU (e ▸ hj), s2.base, below_kp s2.bel q5 s2.bel.size fun j hj e => by omega⟩
  exact ⟨s5.grow h56, hX, T.xw, bx5.below h56 bx5.lt, b5.below h56 b5.lt, (((hr2.below h24).kp q5 fun j hj => hj.2).below h56).mono fun j _ hj => hj.1, f1⟩
theorem Aft.grow {w0 wx w' : World} {X g d r mm : Nat} {U F : Nat → Prop} {D D1 : DskS} {q q1 : Quad} (A : Aft w0 wx X g d r mm U F D D1 q q1) (h : Below wx.heap.size wx w') : Aft w0 w' X g d r mm U F D D1 q q1 :=
  ⟨A.sta.grow h, A.xu, A.xw, A.bx.below h A.bx.lt, A.bg.below h A.bg.lt, A.rd.below h, A.fd⟩
/-- That stored into X. -/
theorem Aft.two {w0 wx u5 : World} {X g d r mm : Nat} {U F : Nat → Prop} {D D1 : DskS} {q q1 : Quad} (A : Aft w0 wx X g d r mm U F D D1 q q1) (b5 : Blk u5 X (dc D1 q1) 40) (q5 : Kp (fun j => j = X) wx u5) : Two w0 u5 X d r mm U F D1 D1 q1 :=
  ⟨⟨A.sta.dk.keep q5 fun j hj e => A.xu (e ▸ hj), A.sta.base, below_kp A.sta.bel q5 A.sta.bel.size fun j hj e => by have := A.xw; omega⟩, A.xu, A.xw, b5, A.rd.kp q5 fun j hj => hj.2, A.fd, A.fd⟩
theorem Two.stored {w0 u1 u2 u5 : World} {X d r mm : Nat} {U F : Nat → Prop} {D E E1 : DskS} {q q1 : Quad} (T : Two w0 u1 X d r mm U F D E q) (h12 : Grows u1 u2) (hr : RD (fun j => ¬ F j ∧ ¬ j = X) u2 E1 q1) (f2 : E1.fit mm) (b5 : Blk u5 X (dc E1 q1) 40) (q5 : Kp (fun j => j = X) u2 u5) : Two w0 u5 X d r mm U F D E1 q1 := by
  have T2 := T.grow h12
  exact ⟨⟨T2.sta.dk.keep q5 fun j hj e => T2.xu (e ▸ hj), T2.sta.base, below_kp T2.sta.bel q5 T2.sta.bel.size fun j hj e => by have := T2.xw; omega⟩, T2.xu, T2.xw, b5, hr.kp q5 fun j hj => hj.2, T2.fd, f2⟩
theorem Pokes.at {w0 wr : World} {a : Option Addr} {n c : Nat} {l : List Pok} (h : Pokes w0 a n c l) (hb : Below w0.heap.size w0 wr) {s : Nat} {x : Pok} (hx : l[s]? = some x) : ∃ b o p m q, a = some ⟨b, o, none⟩ ∧ b < wr.heap.size ∧ wr.cell? ⟨b, o + s * 5 + 3, none⟩ = some (.slice p m q) ∧ x.bytes.length = m := by
  obtain ⟨b, o, vs, ha, hlt, hrg, hl, p, m, q, rfl, hB, _⟩ := Sl.at h hx
  refine ⟨b, o, p, m, q, ha, Nat.lt_of_lt_of_le hlt hb.size, ?_, hB.1.len⟩
  have := hrg 3 _ rfl
  rw [World.cell?_of_block (w := w0) (hb.block b hlt)]
  exact this
theorem Pokes.sl {w0 w : World} {a : Option Addr} {n c : Nat} {l : List Pok} (h : Pokes w0 a n c l) (hb : Below w0.heap.size w0 w) {A : Nat → Prop} (hA : ∀ j, j < w0.heap.size → A j) : Sl (elP A) 5 A w a n c l := by
  have h1 : Sl (elP fun j => j < w0.heap.size) 5 (fun j => j < w0.heap.size) w a n c l := Sl.keep h hb.size (elP.keep hb.size fun j hj _ => hb.block j hj) fun j hj _ => hb.block j hj
  exact h1.mono (fun x vs ⟨p, m, q, e, g1, r⟩ => ⟨p, m, q, e, g1.mono fun j _ hj => hA j hj, r⟩) fun j _ hj => hA j hj

end Go.Proofs.Ytfdilgnlfademaa
