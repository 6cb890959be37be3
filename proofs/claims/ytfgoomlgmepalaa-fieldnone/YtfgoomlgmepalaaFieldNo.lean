/-
  Plain mathematics of layer 5, ahead of its code: a product is nought just if one of the two is. No condition; nothing of the program.
-/
import Derived.Test.YtfgoomlgmepalaaFieldSq
namespace Go.Proofs.Ytfgoomlgmepalaa

set_option maxRecDepth 100000 in
theorem x128 : sqN 2 128 = 2 := by
  rw [← sqEN_eq]
  decide +kernel
theorem sq_one : sq 1 = 1 := fmul_one 1
theorem sqN_one (n : Nat) : sqN 1 n = 1 := by
  induction n with
  | zero => rfl
  | succ n ih => rw [sqN, ih, sq_one]
theorem tx_two (b : Fe) : tx b = fmul b 2 := by
  have : (2 : Fe) = tx 1 := by decide
  rw [this, fmul_tx, fmul_one]
theorem sqN_pow (i : Nat) : sqN (txN 1 i) 128 = txN 1 i := by
  induction i with
  | zero => exact sqN_one 128
  | succ i ih => rw [txN, tx_two, sqN_mul, ih, x128]
/-- Squared 128 times an element is itself. -/
theorem sqN_all (a : Fe) : sqN a 128 = a := by
  have h : sqN (lin a (txN 1) 128) 128 = lin a (txN 1) 128 := by
    have := (sqN_adds 128).lin a (txN 1) 128
    rw [this]
    exact lin_congr fun i _ => sqN_pow i
  rw [fe_sum] at h
  exact h

/-- What undoes a + a squared, but for the first bit. -/
def certL : List Nat := [0x295ac0b1f4731af9676aac9fa4b20b08, 0xe5da5595ee970b89929959af766af404, 0xe5da5595ee970b89929959af766af406, 0x4e9826c74350bfe67783f7333404a20c,
  0xe5da5595ee970b89929959af766af402, 0x2aaea79ad7da34b07dc714cb83074e6a, 0x4e9826c74350bfe67783f7333404a204, 0xcc8095241ae41171f5f3f531d2d9fe18,
  0xe5da5595ee970b89929959af766af412, 0x4e983687d159ce9677cb862e8ac85b44, 0x2aaea79ad7da34b07dc714cb83074e4a, 0xaae2ab6aaf144aaff73fcb3c06aaff56,
  0x4e9826c74350bfe67783f7333404a244, 0xe62f327ccd5792dd893fe9ca40603f62, 0xcc8095241ae41171f5f3f531d2d9fe98, 0xab52f0323f47c90be1336bc7d453b626,
  0xe5da5595ee970b89929959af766af512, 0x2abe34bad75338b479a6a089abf4573a, 0x4e983687d159ce9677cb862e8ac85944, 0x1e8ccb9dcc72f2e1a9cbef8232562fc,
  0x2aaea79ad7da34b07dc714cb83074a4a, 0x2442c3221f3dc1a0ce869b24a80e48c, 0xaae2ab6aaf144aaff73fcb3c06aaf756, 0xcf64612f39c4323deb3ff936dd9aa228,
  0x4e9826c74350bfe67783f7333404b244, 0xcc911696880d4909f0d5382a57572458, 0xe62f327ccd5792dd893fe9ca40601f62, 0x4d7cd7cc29d28cf2697f6478e5db2834,
  0xcc8095241ae41171f5f3f531d2d9be98, 0xccc99127569146a7fc0956ca1a5b86a4, 0xab52f0323f47c90be1336bc7d4533626, 0x65cece94dacd5b1c14f5986b001eeb82,
  0xe5da5595ee970b89929959af766bf512, 0x2b0e7fa2d509ca746fe27169c7c3e73a, 0x2abe34bad75338b479a6a089abf6573a, 0x65df4d264824132411d3553885980142,
  0x4e983687d159ce9677cb862e8acc5944, 0xcf74f70e70ef2af7ef6fd21d2af671a4, 0x1e8ccb9dcc72f2e1a9cbef8232d62fc, 0xcec4b9173b16cdf9f91a9d8499490f58,
  0x2aaea79ad7da34b07dc714cb83174a4a, 0x83f16f99175f624799a6cf206b513bdc, 0x2442c3221f3dc1a0ce869b24aa0e48c, 0x3f562a96a2aa9081b9e27ebe84671c0,
  0xaae2ab6aaf144aaff73fcb3c06eaf756, 0xccc9c07ae11bcce3fcd6d526cddeebd4, 0xcf64612f39c4323deb3ff936dd1aa228, 0xa95fc803c09556f7e461dfebe8467196,
  0x4e9826c74350bfe67783f7333504b244, 0x4cdc1ab0f0ab5b2e7b20ee03c15c7384, 0xcc911696880d4909f0d5382a55572458, 0xaaba68961da11d79fb48c8c7fe68cf6a,
  0xe62f327ccd5792dd893fe9ca44601f62, 0xe5db5416ee209847938b5c70638d3bee, 0x4d7cd7cc29d28cf2697f6478eddb2834, 0x6437818b95e2e76e0b49fa26a7e512ce,
  0xcc8095241ae41171f5f3f531c2d9be98, 0x4cd9020746184ba27868a299022ddf34, 0xccc99127569146a7fc0956ca3a5b86a4, 0x824171dcefbe4a8b8f1d24e407e8e76c,
  0xab52f0323f47c90be1336bc794533626, 0xe62e22af1f6bf32b88711e202cdc3b5e, 0x65cece94dacd5b1c14f5986b801eeb82, 0x83f4672b23a92e499aadb85427b54520,
  0xe5da5595ee970b89929959ae766bf512, 0x1040920971720048711dbeccf94c, 0x2b0e7fa2d509ca746fe2716bc7c3e73a, 0x81edd40a7a7437cb99d6b267d0d7976c,
  0x2abe34bad75338b479a6a08dabf6573a, 0xe46a1e8deccdf96d84dd884d1a5d4462, 0x65df4d264824132411d3553085980142, 0x804c1cb1eac70f698ab1aeeb3a605920,
  0x4e983687d159ce9677cb863e8acc5944, 0xa94f4b3252499e01e04514377dbd55aa, 0xcf74f70e70ef2af7ef6fd23d2af671a4, 0xe7d77da5831189d3978a93f3f56f619e,
  0x1e8ccb9dcc72f2e1a9cbeb8232d62fc, 0x4cdd0f362b68e52a7a5109eab0a16ef4, 0xcec4b9173b16cdf9f91a9d0499490f58, 0xe4329c3d7bf233698830781e88d05912,
  0x2aaea79ad7da34b07dc715cb83174a4a, 0x82082082597387418618bcbfcff334e0, 0x83f16f99175f624799a6cd206b513bdc, 0x294b124ed1181a846297e291f4adcc3a,
  0x2442c3221f3dc1a0ce86db24aa0e48c, 0xe78fff41144664939b696b666550119e, 0x3f562a96a2aa9081b9e2febe84671c0, 0xcd78dbfd54a1436beb568d9e63d55a14,
  0xaae2ab6aaf144aaff73fdb3c06eaf756, 0xccdd4e7b1ce38d0ffacabbbeed722b64, 0xccc9c07ae11bcce3fcd6f526cddeebd4, 0x3e5e1ccb1bf89c61fb4754fa43bbf3c,
  0xcf64612f39c4323deb3fb936dd1aa228, 0xe5da00893461b455926f68f4172caea2, 0xa95fc803c09556f7e4615febe8467196, 0xe78ae2a77b3e87b1981cf1dccb9d1fd2,
  0x4e9826c74350bfe67782f7333504b244, 0x2912d4222a675b0a6fd777b6c15f72c6, 0x4cdc1ab0f0ab5b2e7b22ee03c15c7384, 0xe7d6682e58d237f196f8740f85956fd2,
  0xcc911696880d4909f0d1382a55572458, 0xab4366b0764a0b4be46143c933474626, 0xaaba68961da11d79fb40c8c7fe68cf6a, 0xe7d77d718378aeb397849bb7f7de0d9e,
  0xe62f327ccd5792dd892fe9ca44601f62, 0x64231d9efb5729d60d13f9bd382e380e, 0xe5db5416ee20984793ab5c70638d3bee, 0x81b51ab7a5fe1499959811bd9a557220,
  0x4d7cd7cc29d28cf2693f6478eddb2834, 0x295ab4bb43072c12678a4ee975a08406, 0x6437818b95e2e76e0bc9fa26a7e512ce, 0xab0eead38eb165ebef9e1acd25989a26,
  0xcc8095241ae41171f4f3f531c2d9be98, 0x3ba7996db230c0010185b9b29b00000, 0x4cd9020746184ba27a68a299022ddf34, 0x8210932010890d058261f45338765990,
  0xccc99127569146a7f80956ca3a5b86a4, 0x2a88e0fbb92f0c2c7f14722e3db361fa, 0x824171dcefbe4a8b871d24e407e8e76c, 0x29b11e87b8989fd86fb067f47d17578a,
  0xab52f0323f47c90bf1336bc794533626, 0x0, 0xe62e22af1f6bf32ba8711e202cdc3b5e, 0x862e22af1f6bf32ba8711e202cdc3b6c,
  0x65cece94dacd5b1c54f5986b801eeb82, 0x8e8cbdc6770aef73b1ef36f7c270bdac, 0x83f4672b23a92e491aadb85427b54520, 0x38b21c09fae1613c0db7ed8c3891e6fa]
def cert (v : Fe) : Fe := lin v (fun j => BitVec.ofNat 128 (certL.getD j 0)) 128
theorem cert_adds : Adds cert := lin_left _ _
def certE (E O : List Fe) : Nat → Bool
  | 0 => true
  | i + 1 => certE E O i && (linL (certL.map (BitVec.ofNat 128)) (E.getD i 0 ^^^ O.getD i 0).toNat 0 0 == O.getD i 0 ^^^ (if i = 0 then 1 else 0))
def ones (b : Fe) : Nat → List Fe
  | 0 => []
  | n + 1 => b :: ones (tx b) n
theorem ones_at (n : Nat) : ∀ (b : Fe) (i : Nat), i < n → (ones b n).getD i 0 = txN b i := by
  induction n with
  | zero => intro b i h; omega
  | succ n ih =>
    intro b i h
    cases i with
    | zero => rfl
    | succ i => rw [ones, List.getD_cons_succ, ih _ i (by omega), txN_in]; rfl
set_option maxRecDepth 100000 in
theorem cert_ok : certE (evens 1 128) (ones 1 128) 128 = true := by decide +kernel
theorem certE_at {E O : List Fe} {n : Nat} (h : certE E O n = true) {i : Nat} (hi : i < n) : linL (certL.map (BitVec.ofNat 128)) (E.getD i 0 ^^^ O.getD i 0).toNat 0 0 = O.getD i 0 ^^^ (if i = 0 then 1 else 0) := by
  induction n with
  | zero => omega
  | succ n ih =>
    rw [certE, Bool.and_eq_true] at h
    by_cases e : i = n
    · subst e
      exact eq_of_beq h.2
    · exact ih h.1 (by omega)
set_option maxRecDepth 100000 in
theorem certL_length : certL.length = 128 := by decide +kernel
theorem cert_at {i : Nat} (hi : i < 128) : cert (sq (txN 1 i) ^^^ txN 1 i) = txN 1 i ^^^ (if i = 0 then 1 else 0) := by
  have h := certE_at cert_ok hi
  rw [evens_at 128 1 i hi, ones_at 128 1 i hi] at h
  rw [sq_pow, ← h]
  unfold cert
  rw [linL_eq _ _ 0 0 (fun j => BitVec.ofNat 128 (certL.getD j 0)) (fun j hj => by
    rw [List.length_map] at hj
    rw [Nat.zero_add, List.getD_eq_getElem?_getD, List.getElem?_map, List.getD_eq_getElem?_getD, List.getElem?_eq_getElem hj]
    rfl) rfl, List.length_map, certL_length]

theorem lin_first (a : Fe) (n : Nat) : lin a (fun i => if i = 0 then 1 else 0) (n + 1) = if a.getLsbD 0 then 1 else 0 := by
  induction n with
  | zero =>
    show (0 : Fe) ^^^ _ = _
    rw [BitVec.xor_comm, fx_zero]
    simp
  | succ n ih =>
    rw [lin, ih]
    have : (if a.getLsbD (n + 1) then (if n + 1 = 0 then (1 : Fe) else 0) else 0) = 0 := by simp
    rw [this, fx_zero]
theorem cert_all (a : Fe) : cert (sq a ^^^ a) = a ^^^ (if a.getLsbD 0 then 1 else 0) := by
  have hg : Adds fun a => cert (sq a ^^^ a) := fun a b => by
    show cert (sq (a ^^^ b) ^^^ (a ^^^ b)) = _
    rw [sq_adds, fx_four, cert_adds]
  have h : cert (sq (lin a (txN 1) 128) ^^^ lin a (txN 1) 128) = lin a (txN 1) 128 ^^^ lin a (fun i => if i = 0 then 1 else 0) 128 := by
    have := hg.lin a (txN 1) 128
    rw [this, ← lin_add]
    exact lin_congr fun i hi => cert_at hi
  rw [fe_sum, lin_first a 127] at h
  exact h
/-- Its own square: nought or one. -/
theorem own_square {e : Fe} (h : sq e = e) : e = 0 ∨ e = 1 := by
  have := cert_all e
  rw [h, fx_self, cert_adds.zero] at this
  have := fx_back this.symm
  rw [this]
  cases e.getLsbD 0
  · exact Or.inl rfl
  · exact Or.inr rfl

/-- a to the power of 2^n - 1. -/
def prN (a : Fe) : Nat → Fe
  | 0 => 1
  | n + 1 => fmul (prN a n) (sqN a n)
theorem prN_mul (a : Fe) (n : Nat) : fmul a (prN a n) = sqN a n := by
  induction n with
  | zero => exact fmul_one a
  | succ n ih => rw [prN, ← fmul_assoc, ih]; rfl
theorem prN_in (a : Fe) (n : Nat) : ∃ f, prN a (n + 1) = fmul a f := by
  induction n with
  | zero => exact ⟨1, by rw [prN, prN, fmul_one]; exact one_fmul a⟩
  | succ n ih =>
    obtain ⟨f, hf⟩ := ih
    exact ⟨fmul f (sqN a (n + 1)), by rw [prN, hf, fmul_assoc]⟩
/-- No nought comes of others. -/
theorem fmul_none {a b : Fe} (h : fmul a b = 0) : a = 0 ∨ b = 0 := by
  obtain ⟨f, hf⟩ := prN_in a 127
  have ha : fmul a (prN a 128) = a := by rw [prN_mul, sqN_all]
  have hf' : prN a 128 = fmul a f := hf
  rw [hf'] at ha
  have he : sq (fmul a f) = fmul a f := by
    unfold sq
    rw [fmul_comm a f, fmul_assoc, fmul_comm f a, ha]
    exact fmul_comm f a
  rcases own_square he with e | e
  · left
    rw [e, fmul_zero] at ha
    exact ha.symm
  · right
    have := congrArg (fmul f) h
    rw [fmul_zero, ← fmul_assoc, fmul_comm f a, e, one_fmul] at this
    exact this
theorem fmul_zero_iff (a b : Fe) : fmul a b = 0 ↔ a = 0 ∨ b = 0 := by
  constructor
  · exact fmul_none
  · rintro (rfl | rfl)
    · rw [fmul_comm]; exact fmul_zero b
    · exact fmul_zero a

end Go.Proofs.Ytfgoomlgmepalaa
