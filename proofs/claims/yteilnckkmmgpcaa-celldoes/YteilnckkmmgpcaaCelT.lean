/-
  Both cells in the loop of layer 10's first statement: the program's, and the reference's in a variable ('TwoC'). No condition.
-/
import Derived.Test.YteilnckkmmgpcaaCelU
import Derived.Test.YteilnckkmmgpcaaCelRB
import Derived.Test.YteilnckkmmgpcaaCelS
import Derived.Test.YteilnckkmmgpcaaPowQ
namespace Go.Proofs.Yteilnckkmmgpcaa
open Go.RowKit

structure TwoC (w0 wr : World) (X c r mm : Nat) (U F : Nat → Prop) (C : CelS) (q : Tri) : Prop where
  sta : StaC w0 wr c r U F C
  xu : ¬ U X
  xw : w0.heap.size ≤ X
  bx : Blk wr X (cc C q) 35
  rd : RC (fun j => ¬ F j ∧ ¬ j = X) wr C q
  fd : C.fit mm
theorem TwoC.xf {w0 wr : World} {X c r mm : Nat} {U F : Nat → Prop} {C : CelS} {q : Tri} (T : TwoC w0 wr X c r mm U F C q) : ¬ F X := fun h => T.xu (T.sta.ck.sub X h)
theorem TwoC.grow {w0 wr w' : World} {X c r mm : Nat} {U F : Nat → Prop} {C : CelS} {q : Tri} (T : TwoC w0 wr X c r mm U F C q) (h : Below wr.heap.size wr w') : TwoC w0 w' X c r mm U F C q :=
  ⟨T.sta.grow h, T.xu, T.xw, T.bx.below h T.bx.lt, T.rd.below h, T.fd⟩
theorem TwoC.more {w0 wr : World} {X c r mm : Nat} {U F : Nat → Prop} {C : CelS} {q : Tri} (T : TwoC w0 wr X c r mm U F C q) : TwoC w0 wr X c r (mm + 1) U F C q := ⟨T.sta, T.xu, T.xw, T.bx, T.rd, T.fd.mono (by omega)⟩
theorem TwoC.first {w0 v4 v5 : World} {X c r : Nat} {A U F : Nat → Prop} {q : Tri} (S : StaC w0 v4 c r U F (CelS.new PowS.new)) (hX : X = v4.heap.size) (hr : RC A v4 (CelS.new PowS.new) q) (hA : ∀ j, A j → ¬ F j) (b5 : Blk v5 X (cc (CelS.new PowS.new) q) 35) (k5 : Below v4.heap.size v4 v5) : TwoC w0 v5 X c r 0 U F (CelS.new PowS.new) q := by
  have h1 : RC (fun j => ¬ F j ∧ ¬ j = X) v4 (CelS.new PowS.new) q := hr.mono fun j hj ha => ⟨hA j ha, by omega⟩
  exact ⟨S.grow k5, fun h => by have := S.ck.lt X h; omega, by rw [hX]; exact S.bel.size, b5, h1.below k5, CelS.fit_new⟩
/-- Behind a write, the reference's first. -/
theorem TwoC.wrote {w0 wr u1 u2 u3 : World} {X c r mm : Nat} {U F U2 F2 : Nat → Prop} {C C1 : CelS} {q q1 : Tri} (T : TwoC w0 wr X c r mm U F C q) (h1 : Below wr.heap.size wr u1) (hr : RC (fun j => ¬ F j ∧ ¬ j = X) u1 C1 q1) (b2 : Blk u2 X (cc C1 q1) 35) (k2 : Kp (fun j => j = X) u1 u2) (hd : Ck U2 F2 u3 c r C1) (hU : Next u2 U U2) (hF : Next u2 F F2) (hk : Kp F u2 u3) (f1 : C1.fit (mm + 1)) : TwoC w0 u3 X c r (mm + 1) U2 F2 C1 q1 := by
  have T1 := T.grow h1
  have s2 : StaC w0 u2 c r U F C := ⟨T1.sta.ck.keep k2 fun j hj e => T1.xu (e ▸ hj), T1.sta.base, below_kp T1.sta.bel k2 T1.sta.bel.size fun j hj e => by have := T1.xw; omega⟩
  have hX : ¬ U2 X := fun h => by
    rcases hU X h with h | h
    · exact T.xu h
    · have := b2.lt
      omega
  have r2 := hr.kp k2 fun j hj => hj.2
  have r0 : RC (fun j => (¬ F j ∧ ¬ j = X) ∧ j < u2.heap.size) u2 C1 q1 := r2.mono fun j hj ha => ⟨ha, hj⟩
  exact ⟨s2.after hd hU hk, hX, T.xw, hk.blk b2 T.xf, (r0.kp hk fun j hj => hj.1.1).mono fun j _ hj => ⟨fun h => by
    rcases hF j h with h | h
    · exact hj.1.1 h
    · have := hj.2
      omega, hj.1.2⟩, f1⟩
/-- Another power. -/
theorem TwoC.power {w0 wr u1 u2 u3 : World} {X c r mm : Nat} {U F : Nat → Prop} {C : CelS} {q : Tri} (T : TwoC w0 wr X c r mm U F C q) {P : PowS} (hp : Pw u1 r P) (k1 : Kp (fun j => j = r) wr u1) (h2 : Below u1.heap.size u1 u2) (b3 : Blk u3 X (cc { C with p := P } q) 35) (k3 : Kp (fun j => j = X) u2 u3) (hf : P.fit (mm + 1)) : TwoC w0 u3 X c r (mm + 1) U F { C with p := P } q := by
  have hFr := T.sta.ck.pw.2
  have s1 := (T.sta.power hp k1).grow h2
  have k1F : Kp F wr u1 := k1.mono fun j _ e => by rw [e]; exact hFr
  have r1 : RC (fun j => ¬ F j ∧ ¬ j = X) u1 C q := T.rd.kp k1F fun j hj => hj.1
  have r3 : RC (fun j => ¬ F j ∧ ¬ j = X) u3 C q := (r1.below h2).kp k3 fun j hj => hj.2
  exact ⟨⟨s1.ck.keep k3 fun j hj e => T.xu (e ▸ hj), s1.base, below_kp s1.bel k3 s1.bel.size fun j hj e => by have := T.xw; omega⟩, T.xu, T.xw, b3, r3, (T.fd.mono (by omega)).power hf⟩
def zOp10 : List Value := [.int .i64 0, .int .i64 0, .slice none 0 0, .int .i64 0, .bool false]
theorem sizeO10 : (Try.prog.info? 40).map (·.size) = some 5 := by kernel_rfl
theorem pc_one' (S : PowS) : ∀ v ∈ pc S, v.oneCell' = true := by
  intro v hv
  simp only [pc, List.mem_cons, List.not_mem_nil, or_false] at hv
  rcases hv with rfl | rfl | rfl | rfl <;> rfl

end Go.Proofs.Yteilnckkmmgpcaa
