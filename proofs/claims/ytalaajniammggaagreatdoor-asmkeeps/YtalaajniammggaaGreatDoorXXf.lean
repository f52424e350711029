/- Reading by one product or quotient. -/
import Derived.Test.YtalaajniammggaaGreatDoorXXe
import Derived.Test.YtalaajniammggaaGreatDoorXMb
namespace Go.Proofs.YtalaajniammggaaGreatDoor
open Go.RowKit
def tenF : List Nat := [4607182418800017408,4621819117588971520,4636737291354636288,4652007308841189376,4666723172467343360,4681608360884174848,4696837146684686336,4711630319722168320,4726483295884279808,4741671816366391296,4756540486875873280,4771362005757984768,4786511204640096256,4801453603149578240,4816244402031689728,4831355200913801216,4846369599423283200,4861130398305394688,4876203697187506176,4891288408196988160,4906019910204099648,4921056587992461136,4936209963552724370]
theorem tenF_facts : ∀ j : Fin 23,negOf (tenF.getD j.val 0) = false ∧ rungOf (tenF.getD j.val 0) < INF ∧ rungOf (tenF.getD j.val 0) ≠ 0 ∧ V (rungOf (tenF.getD j.val 0)) = 10 ^ j.val * 2 ^ unit := by decide +kernel
def Powz (w : World) : Prop := ∃ b o,w.cell? ⟨16,0,none⟩ = some (.slice (some ⟨b,o,none⟩) 23 23) ∧ ∀ j,j < 23 → w.cell? ⟨b,o + j,none⟩ = some (.float .f64 (tenF.getD j 0))
theorem Powz.kept {w w' : World} (h : Powz w) (hb : Below w.heap.size w w') : Powz w' := by
 obtain ⟨b,o,h1,h2⟩ := h
 exact ⟨b,o,(hb.cell (World.block_lt_of_cell? w _ h1)).trans h1,fun j hj => (hb.cell (World.block_lt_of_cell? w _ (h2 j hj))).trans (h2 j hj)⟩
theorem int_exact (n : Nat) (h : n ≤ 9007199254740992) : V (rn (n * 2 ^ unit) 1) = n * 2 ^ unit := by
  have := K_small (n : Int) (by omega) (by have : (2 : Int) ^ 53 = 9007199254740992 := by decide
                                           omega)
  rw [K_ofInt,if_neg (by omega),Int.natAbs_natCast] at this
  have h2 : ((V (rn (n * 2 ^ unit) 1) : Nat) : Int) = ((n * 2 ^ unit : Nat) : Int) := by rw [this]; push_cast; rfl
  exact_mod_cast h2
theorem unit_pos : 0 < 2 ^ unit := Nat.two_pow_pos _
def fInt (neg : Bool) (d : Nat) : Nat := Ieee.double.word neg (rn (d * 2 ^ unit) 1)
theorem fInt_facts (neg : Bool) (d : Nat) (h : d < 4503599627370496) : negOf (fInt neg d) = neg ∧ rungOf (fInt neg d) = rn (d * 2 ^ unit) 1 ∧ rungOf (fInt neg d) < INF ∧ V (rungOf (fInt neg d)) = d * 2 ^ unit := by
 have hr := rn_lt (d * 2 ^ unit) 1
 have h1 : negOf (fInt neg d) = neg := negOf_word neg _ hr
 have h2 : rungOf (fInt neg d) = rn (d * 2 ^ unit) 1 := rungOf_word neg _ hr
 refine ⟨h1,h2,?_,by rw [h2]; exact int_exact d (by omega)⟩
 rw [h2]
 rcases Nat.lt_or_ge (rn (d * 2 ^ unit) 1) INF with hc | hc
 ·exact hc
 ·exfalso
  have hV := V_le INF _ hc
  rw [int_exact d (by omega)] at hV
  have h3 : 4503599627370496 * 2 ^ unit < V INF := by decide +kernel
  have h4 : d * 2 ^ unit ≤ 4503599627370496 * 2 ^ unit := Nat.mul_le_mul_right _ (by omega)
  omega
theorem conv_d (d : Nat) (W : World) : (convert 99 107 (.int .u64 (d : Int))).run Tryz.prog W = .ok (.float .f64 (fInt false d)) W := by
 rw [run_convert_int_float W 99 107 .u64 .f64 (d : Int) (by kernel_rfl) (by kernel_rfl)]
 have := ofInt_eq (d : Int)
 rw [Int.natAbs_natCast,decide_eq_false (by omega)] at this
 show Result.ok (Value.float .f64 (ofInt (d : Int))) W = _
 rw [this]
 rfl
theorem neg_d (d : Nat) (W : World) : (Op.unary .neg (.float .f64 (fInt false d))).run Tryz.prog W = .ok (.float .f64 (fInt true d)) W := by
 have hr := rn_lt (d * 2 ^ unit) 1
 have e1 : fInt false d = rn (d * 2 ^ unit) 1 := by unfold fInt; rw [word_eq]; simp
 have e2 : fInt true d = 2 ^ 63 + rn (d * 2 ^ unit) 1 := by unfold fInt; rw [word_eq]; simp
 have h3 : (2 : Nat) ^ 63 = 9223372036854775808 := by decide
 generalize fInt false d = x at *
 generalize fInt true d = y at *
 generalize rn (d * 2 ^ unit) 1 = z at *
 have := neg_flip x (by rw [e1]; omega)
 show Result.ok (Value.float .f64 (Op.negFloat FloatKind.f64 x)) W = _
 rw [this,e1,e2]
 unfold flip
 rw [if_pos hr,Nat.add_comm]
theorem mul_ten (neg : Bool) (d j y : Nat) (hy : negOf y = neg) (hf : rungOf y < INF) (hV : V (rungOf y) = d * 2 ^ unit) (hj : j < 23) : Ieee.double.mul y (tenF.getD j 0) = some (fInt neg (d * 10 ^ j)) := by
 obtain ⟨t1,t2,t3,t4⟩ := tenF_facts ⟨j,hj⟩
 simp only at t1 t2 t3 t4
 have e : rn (d * 2 ^ unit * (10 ^ j * 2 ^ unit)) (2 ^ unit) = rn (d * 10 ^ j * 2 ^ unit) 1 := by
  have := rn_scale (d * 10 ^ j * 2 ^ unit) 1 (2 ^ unit) unit_pos
  rw [Nat.one_mul] at this
  rw [← this]
  generalize 2 ^ unit = U
  generalize 10 ^ j = J
  rw [show d * U * (J * U) = d * J * U * U by grind]
 rw [mul_fin y _ hf t2,hy,t1,hV,t4,Bool.xor_false,e]
 unfold fInt
 rfl
theorem div_ten (neg : Bool) (d j y : Nat) (hy : negOf y = neg) (hf : rungOf y < INF) (hV : V (rungOf y) = d * 2 ^ unit) (hj : j < 23) : Ieee.double.div y (tenF.getD j 0) = some (Ieee.double.word neg (rn (d * 2 ^ unit) (10 ^ j))) := by
 obtain ⟨t1,t2,t3,t4⟩ := tenF_facts ⟨j,hj⟩
 simp only at t1 t2 t3 t4
 rw [div_fin y _ hf t2 t3,hy,t1,hV,t4,Bool.xor_false,rn_scale (d * 2 ^ unit) (10 ^ j) (2 ^ unit) unit_pos]
theorem le15 (y : Nat) (h : rungOf y ≤ INF) (h1 : (FloatKind.f64.format.order y 4831355200913801216 == some .gt) = false) (h2 : (FloatKind.f64.format.order y 14054727237768577024 == some .lt) = false) : V (rungOf y) ≤ 1000000000000000 * 2 ^ unit := by
 have k1 : K 4831355200913801216 = ((1000000000000000 * 2 ^ unit : Nat) : Int) := by decide +kernel
 have k2 : K 14054727237768577024 = -((1000000000000000 * 2 ^ unit : Nat) : Int) := by decide +kernel
 have r1 : rungOf 4831355200913801216 ≤ INF := by decide +kernel
 have r2 : rungOf 14054727237768577024 ≤ INF := by decide +kernel
 have o1 : Ieee.double.order y 4831355200913801216 = some (compare (K y) (K 4831355200913801216)) := order_key y _ h r1
 have o2 : Ieee.double.order y 14054727237768577024 = some (compare (K y) (K 14054727237768577024)) := order_key y _ h r2
 rw [show FloatKind.f64.format.order y 4831355200913801216 = Ieee.double.order y 4831355200913801216 from rfl,o1,k1] at h1
 rw [show FloatKind.f64.format.order y 14054727237768577024 = Ieee.double.order y 14054727237768577024 from rfl,o2,k2] at h2
 generalize (1000000000000000 * 2 ^ unit : Nat) = Q at *
 have g1 : ¬ (Q : Int) < K y := fun hc => by
  rw [Int.compare_eq_gt.2 hc] at h1; simp at h1
 have g2 : ¬ K y < -(Q : Int) := fun hc => by
  rw [Int.compare_eq_lt.2 hc] at h2; simp at h2
 cases hs : negOf y
 ·simp only [K,hs] at g1 g2
  simp at g1 g2
  omega
 ·simp only [K,hs] at g1 g2
  simp at g1 g2
  omega
theorem small_of_le (n : Nat) (h : V (rn (n * 2 ^ unit) 1) ≤ 1000000000000000 * 2 ^ unit) : n ≤ 1000000000000000 := by
 rcases Nat.lt_or_ge 1000000000000000 n with hc | hc
 ·exfalso
  have h1 := rn_mono1 (1000000000000001 * 2 ^ unit) (n * 2 ^ unit) (Nat.mul_le_mul_right _ (by omega))
  have h2 := V_le _ _ h1
  rw [int_exact 1000000000000001 (by omega)] at h2
  have h3 := Nat.mul_lt_mul_of_pos_right (show 1000000000000000 < 1000000000000001 by omega) unit_pos
  omega
 ·exact hc
end Go.Proofs.YtalaajniammggaaGreatDoor

/- Reading by one product or quotient: the library's function. -/
namespace Go.Proofs.YtalaajniammggaaGreatDoor
open Go.RowKit
def Right (d : Nat) (p : Int) (neg : Bool) (f : Nat) (ok : Bool) : Prop := ok = true → d < 4503599627370496 ∧ f = Ieee.double.word neg (rn (d * 10 ^ p.toNat * 2 ^ unit) (10 ^ (-p).toNat))
def ExPost (d : Nat) (p : Int) (neg : Bool) (f : Nat) (ok : Bool) : Prop := ∀ w,Tabs w → Powz w → Calls Tryz.prog 186 #[.int .u64 d,.int .i64 p,.bool neg] w fun e w' => e = .returned (.tuple #[.float .f64 f,.bool ok]) ∧ w' = w
set_option maxRecDepth 100000 in
theorem ex_big (d : Nat) (p : Int) (neg : Bool) (hd : d < 18446744073709551616) (h : 4503599627370496 ≤ d) : ExPost d p neg 0 false := by
 intro w T P
 have hm := T.mant
 obtain ⟨q,hq⟩ : ∃ q,Hid (d / 4503599627370496 = q) := ⟨_,rfl⟩
 have e1 : (d : Int) / 4503599627370496 = (q : Int) := by have := hq.out; omega
 have d1 : ((q : Int) == 0) = false := by have := hq.out; simp; omega
 clear T P
 go_enter Tryz.func186,Tryz.ntmps186
 go_wp2
 go_ret2
 exact ⟨rfl,rfl⟩
set_option maxRecDepth 100000 in
theorem ex_zero_f (d : Nat) (p : Int) (h : d < 4503599627370496) (hp : p = 0) : ExPost d p false (fInt false d) true := by
 intro w T P
 have hm := T.mant
 obtain ⟨b,o,c1,c2⟩ := P
 have e1 : (d : Int) / 4503599627370496 = 0 := by omega
 have cv := conv_d d
 have ng := neg_d d
 subst hp
 clear c1 c2
 clear T
 generalize fInt false d = y0 at *
 generalize fInt true d = y1 at *
 go_enter Tryz.func186,Tryz.ntmps186
 go_wp2
 go_ret2
 exact ⟨rfl,rfl⟩
set_option maxRecDepth 100000 in
theorem ex_far_f (d : Nat) (p : Int) (h : d < 4503599627370496) (hp : 37 < p) (hp2 : p ≤ 400) : ExPost d p false (fInt false d) false := by
 intro w T P
 have hm := T.mant
 obtain ⟨b,o,c1,c2⟩ := P
 have e1 : (d : Int) / 4503599627370496 = 0 := by omega
 have cv := conv_d d
 have ng := neg_d d
 have p0 : ((p : Int) == 0) = false := by simp; omega
 have p1 : 0 < p := by omega
 have p2 : decide (p ≤ 37) = false := by simp; omega
 have p3 : decide (p < 0) = false := by simp; omega
 clear c1 c2
 clear T
 generalize fInt false d = y0 at *
 generalize fInt true d = y1 at *
 go_enter Tryz.func186,Tryz.ntmps186
 go_wp2
 go_ret2
 exact ⟨rfl,rfl⟩
set_option maxRecDepth 100000 in
theorem ex_low_f (d : Nat) (p : Int) (h : d < 4503599627370496) (hp : p < -22) (hp2 : -400 ≤ p) : ExPost d p false (fInt false d) false := by
 intro w T P
 have hm := T.mant
 obtain ⟨b,o,c1,c2⟩ := P
 have e1 : (d : Int) / 4503599627370496 = 0 := by omega
 have cv := conv_d d
 have ng := neg_d d
 have p0 : ((p : Int) == 0) = false := by simp; omega
 have p1 : decide (0 < p) = false := by simp; omega
 have p3 : p < 0 := by omega
 have p4 : decide (-22 ≤ p) = false := by simp; omega
 clear c1 c2
 clear T
 generalize fInt false d = y0 at *
 generalize fInt true d = y1 at *
 go_enter Tryz.func186,Tryz.ntmps186
 go_wp2
 go_ret2
 exact ⟨rfl,rfl⟩
set_option maxRecDepth 100000 in
theorem ex_div_f (d : Nat) (p : Int) (h : d < 4503599627370496) (j : Nat) (hp : p = -(j : Int)) (hj1 : 1 ≤ j) (hj2 : j ≤ 22) (f : Nat) (hf : Ieee.double.div (fInt false d) (tenF.getD j 0) = some f) : ExPost d p false f true := by
 intro w T P
 have hm := T.mant
 obtain ⟨b,o,c1,c2⟩ := P
 have e1 : (d : Int) / 4503599627370496 = 0 := by omega
 have cv := conv_d d
 have ng := neg_d d
 have p0 : ((p : Int) == 0) = false := by simp; omega
 have p1 : decide (0 < p) = false := by simp; omega
 have p3 : p < 0 := by omega
 have p4 : -22 ≤ p := by omega
 have p5 : -p = (j : Int) := by omega
 have cj := c2 j (by omega)
 have dv := run_fdiv_some _ _ _ hf
 clear c2 hf hp
 generalize tenF.getD j 0 = t at *
 clear T
 generalize fInt false d = y0 at *
 generalize fInt true d = y1 at *
 go_enter Tryz.func186,Tryz.ntmps186
 go_wp2
 go_ret2
 exact ⟨rfl,rfl⟩
set_option maxRecDepth 100000 in
theorem ex_mul_fa (d : Nat) (p : Int) (h : d < 4503599627370496) (j : Nat) (hp : p = (j : Int)) (hj1 : 1 ≤ j) (hj2 : j ≤ 22) (hb : (FloatKind.f64.format.order (fInt false d) 4831355200913801216 == some .gt) = true) : ExPost d p false (fInt false d) false := by
 intro w T P
 have hm := T.mant
 obtain ⟨b,o,c1,c2⟩ := P
 have e1 : (d : Int) / 4503599627370496 = 0 := by omega
 have cv := conv_d d
 have ng := neg_d d
 have p0 : ((j : Int) == 0) = false := by simp; omega
 have p1 : 0 < (j : Int) := by omega
 have p2 : (j : Int) ≤ 37 := by omega
 have p6 : decide (22 < (j : Int)) = false := by simp; omega
 have p7 : (j : Int) ≤ 22 := by omega
 subst hp
 have g1 : (FloatKind.f64.format.order (fInt false d) 4831355200913801216 == some .gt) = true := hb
 clear c1 c2 hb
 clear T
 generalize fInt false d = y0 at *
 generalize fInt true d = y1 at *
 go_enter Tryz.func186,Tryz.ntmps186
 go_wp2
 go_ret2
 exact ⟨rfl,rfl⟩
set_option maxRecDepth 100000 in
theorem ex_great_fa (d : Nat) (p : Int) (h : d < 4503599627370496) (j : Nat) (hp : p = (j : Int) + 22) (hj1 : 1 ≤ j) (hj2 : j ≤ 15) (g : Nat) (hg : Ieee.double.mul (fInt false d) (tenF.getD j 0) = some g) (hb : (FloatKind.f64.format.order g 4831355200913801216 == some .gt) = true) : ExPost d p false g false := by
 intro w T P
 have hm := T.mant
 obtain ⟨b,o,c1,c2⟩ := P
 have e1 : (d : Int) / 4503599627370496 = 0 := by omega
 have cv := conv_d d
 have ng := neg_d d
 have p0 : ((p : Int) == 0) = false := by simp; omega
 have p1 : 0 < p := by omega
 have p2 : p ≤ 37 := by omega
 have p6 : 22 < p := by omega
 have p5 : p - 22 = (j : Int) := by omega
 have cj := c2 j (by omega)
 have mg := run_fmul_some _ _ _ hg
 have g1 : (FloatKind.f64.format.order g 4831355200913801216 == some .gt) = true := hb
 clear c2 hb hg hp
 generalize tenF.getD j 0 = t at *
 clear T
 generalize fInt false d = y0 at *
 generalize fInt true d = y1 at *
 go_enter Tryz.func186,Tryz.ntmps186
 go_wp2
 go_ret2
 exact ⟨rfl,rfl⟩
set_option maxRecDepth 100000 in
theorem ex_mul_fb (d : Nat) (p : Int) (h : d < 4503599627370496) (j : Nat) (hp : p = (j : Int)) (hj1 : 1 ≤ j) (hj2 : j ≤ 22) (hb : (FloatKind.f64.format.order (fInt false d) 4831355200913801216 == some .gt) = false ∧ (FloatKind.f64.format.order (fInt false d) 14054727237768577024 == some .lt) = true) : ExPost d p false (fInt false d) false := by
 intro w T P
 have hm := T.mant
 obtain ⟨b,o,c1,c2⟩ := P
 have e1 : (d : Int) / 4503599627370496 = 0 := by omega
 have cv := conv_d d
 have ng := neg_d d
 have p0 : ((j : Int) == 0) = false := by simp; omega
 have p1 : 0 < (j : Int) := by omega
 have p2 : (j : Int) ≤ 37 := by omega
 have p6 : decide (22 < (j : Int)) = false := by simp; omega
 have p7 : (j : Int) ≤ 22 := by omega
 subst hp
 have g1 : (FloatKind.f64.format.order (fInt false d) 4831355200913801216 == some .gt) = false := hb.1
 have g2 : (FloatKind.f64.format.order (fInt false d) 14054727237768577024 == some .lt) = true := hb.2
 clear c1 c2 hb
 clear T
 generalize fInt false d = y0 at *
 generalize fInt true d = y1 at *
 go_enter Tryz.func186,Tryz.ntmps186
 go_wp2
 go_ret2
 exact ⟨rfl,rfl⟩
set_option maxRecDepth 100000 in
theorem ex_great_fb (d : Nat) (p : Int) (h : d < 4503599627370496) (j : Nat) (hp : p = (j : Int) + 22) (hj1 : 1 ≤ j) (hj2 : j ≤ 15) (g : Nat) (hg : Ieee.double.mul (fInt false d) (tenF.getD j 0) = some g) (hb : (FloatKind.f64.format.order g 4831355200913801216 == some .gt) = false ∧ (FloatKind.f64.format.order g 14054727237768577024 == some .lt) = true) : ExPost d p false g false := by
 intro w T P
 have hm := T.mant
 obtain ⟨b,o,c1,c2⟩ := P
 have e1 : (d : Int) / 4503599627370496 = 0 := by omega
 have cv := conv_d d
 have ng := neg_d d
 have p0 : ((p : Int) == 0) = false := by simp; omega
 have p1 : 0 < p := by omega
 have p2 : p ≤ 37 := by omega
 have p6 : 22 < p := by omega
 have p5 : p - 22 = (j : Int) := by omega
 have cj := c2 j (by omega)
 have mg := run_fmul_some _ _ _ hg
 have g1 : (FloatKind.f64.format.order g 4831355200913801216 == some .gt) = false := hb.1
 have g2 : (FloatKind.f64.format.order g 14054727237768577024 == some .lt) = true := hb.2
 clear c2 hb hg hp
 generalize tenF.getD j 0 = t at *
 clear T
 generalize fInt false d = y0 at *
 generalize fInt true d = y1 at *
 go_enter Tryz.func186,Tryz.ntmps186
 go_wp2
 go_ret2
 exact ⟨rfl,rfl⟩
set_option maxRecDepth 100000 in
theorem ex_mul_fc (d : Nat) (p : Int) (h : d < 4503599627370496) (j : Nat) (hp : p = (j : Int)) (hj1 : 1 ≤ j) (hj2 : j ≤ 22) (hb : (FloatKind.f64.format.order (fInt false d) 4831355200913801216 == some .gt) = false ∧ (FloatKind.f64.format.order (fInt false d) 14054727237768577024 == some .lt) = false) (f : Nat) (hf : Ieee.double.mul (fInt false d) (tenF.getD j 0) = some f) : ExPost d p false f true := by
 intro w T P
 have hm := T.mant
 obtain ⟨b,o,c1,c2⟩ := P
 have e1 : (d : Int) / 4503599627370496 = 0 := by omega
 have cv := conv_d d
 have ng := neg_d d
 have p0 : ((j : Int) == 0) = false := by simp; omega
 have p1 : 0 < (j : Int) := by omega
 have p2 : (j : Int) ≤ 37 := by omega
 have p6 : decide (22 < (j : Int)) = false := by simp; omega
 have p7 : (j : Int) ≤ 22 := by omega
 subst hp
 have g1 : (FloatKind.f64.format.order (fInt false d) 4831355200913801216 == some .gt) = false := hb.1
 have g2 : (FloatKind.f64.format.order (fInt false d) 14054727237768577024 == some .lt) = false := hb.2
 have cj := c2 j (by omega)
 have mv := run_fmul_some _ _ _ hf
 clear c2 hf hb
 generalize tenF.getD j 0 = t at *
 clear T
 generalize fInt false d = y0 at *
 generalize fInt true d = y1 at *
 go_enter Tryz.func186,Tryz.ntmps186
 go_wp2
 go_ret2
 exact ⟨rfl,rfl⟩
set_option maxRecDepth 100000 in
theorem ex_great_fc (d : Nat) (p : Int) (h : d < 4503599627370496) (j : Nat) (hp : p = (j : Int) + 22) (hj1 : 1 ≤ j) (hj2 : j ≤ 15) (g : Nat) (hg : Ieee.double.mul (fInt false d) (tenF.getD j 0) = some g) (hb : (FloatKind.f64.format.order g 4831355200913801216 == some .gt) = false ∧ (FloatKind.f64.format.order g 14054727237768577024 == some .lt) = false) (f : Nat) (hf : Ieee.double.mul g (tenF.getD 22 0) = some f) : ExPost d p false f true := by
 intro w T P
 have hm := T.mant
 obtain ⟨b,o,c1,c2⟩ := P
 have e1 : (d : Int) / 4503599627370496 = 0 := by omega
 have cv := conv_d d
 have ng := neg_d d
 have p0 : ((p : Int) == 0) = false := by simp; omega
 have p1 : 0 < p := by omega
 have p2 : p ≤ 37 := by omega
 have p6 : 22 < p := by omega
 have p5 : p - 22 = (j : Int) := by omega
 have cj := c2 j (by omega)
 have mg := run_fmul_some _ _ _ hg
 have g1 : (FloatKind.f64.format.order g 4831355200913801216 == some .gt) = false := hb.1
 have g2 : (FloatKind.f64.format.order g 14054727237768577024 == some .lt) = false := hb.2
 have ck := c2 22 (by omega)
 have mv := run_fmul_some _ _ _ hf
 clear c2 hf hb hg hp
 generalize tenF.getD j 0 = t at *
 generalize tenF.getD 22 0 = t2 at *
 clear T
 generalize fInt false d = y0 at *
 generalize fInt true d = y1 at *
 go_enter Tryz.func186,Tryz.ntmps186
 go_wp2
 go_ret2
 exact ⟨rfl,rfl⟩
set_option maxRecDepth 100000 in
theorem ex_zero_t (d : Nat) (p : Int) (h : d < 4503599627370496) (hp : p = 0) : ExPost d p true (fInt true d) true := by
 intro w T P
 have hm := T.mant
 obtain ⟨b,o,c1,c2⟩ := P
 have e1 : (d : Int) / 4503599627370496 = 0 := by omega
 have cv := conv_d d
 have ng := neg_d d
 subst hp
 clear c1 c2
 clear T
 generalize fInt false d = y0 at *
 generalize fInt true d = y1 at *
 go_enter Tryz.func186,Tryz.ntmps186
 go_wp2
 go_ret2
 exact ⟨rfl,rfl⟩
set_option maxRecDepth 100000 in
theorem ex_far_t (d : Nat) (p : Int) (h : d < 4503599627370496) (hp : 37 < p) (hp2 : p ≤ 400) : ExPost d p true (fInt true d) false := by
 intro w T P
 have hm := T.mant
 obtain ⟨b,o,c1,c2⟩ := P
 have e1 : (d : Int) / 4503599627370496 = 0 := by omega
 have cv := conv_d d
 have ng := neg_d d
 have p0 : ((p : Int) == 0) = false := by simp; omega
 have p1 : 0 < p := by omega
 have p2 : decide (p ≤ 37) = false := by simp; omega
 have p3 : decide (p < 0) = false := by simp; omega
 clear c1 c2
 clear T
 generalize fInt false d = y0 at *
 generalize fInt true d = y1 at *
 go_enter Tryz.func186,Tryz.ntmps186
 go_wp2
 go_ret2
 exact ⟨rfl,rfl⟩
set_option maxRecDepth 100000 in
theorem ex_low_t (d : Nat) (p : Int) (h : d < 4503599627370496) (hp : p < -22) (hp2 : -400 ≤ p) : ExPost d p true (fInt true d) false := by
 intro w T P
 have hm := T.mant
 obtain ⟨b,o,c1,c2⟩ := P
 have e1 : (d : Int) / 4503599627370496 = 0 := by omega
 have cv := conv_d d
 have ng := neg_d d
 have p0 : ((p : Int) == 0) = false := by simp; omega
 have p1 : decide (0 < p) = false := by simp; omega
 have p3 : p < 0 := by omega
 have p4 : decide (-22 ≤ p) = false := by simp; omega
 clear c1 c2
 clear T
 generalize fInt false d = y0 at *
 generalize fInt true d = y1 at *
 go_enter Tryz.func186,Tryz.ntmps186
 go_wp2
 go_ret2
 exact ⟨rfl,rfl⟩
set_option maxRecDepth 100000 in
theorem ex_div_t (d : Nat) (p : Int) (h : d < 4503599627370496) (j : Nat) (hp : p = -(j : Int)) (hj1 : 1 ≤ j) (hj2 : j ≤ 22) (f : Nat) (hf : Ieee.double.div (fInt true d) (tenF.getD j 0) = some f) : ExPost d p true f true := by
 intro w T P
 have hm := T.mant
 obtain ⟨b,o,c1,c2⟩ := P
 have e1 : (d : Int) / 4503599627370496 = 0 := by omega
 have cv := conv_d d
 have ng := neg_d d
 have p0 : ((p : Int) == 0) = false := by simp; omega
 have p1 : decide (0 < p) = false := by simp; omega
 have p3 : p < 0 := by omega
 have p4 : -22 ≤ p := by omega
 have p5 : -p = (j : Int) := by omega
 have cj := c2 j (by omega)
 have dv := run_fdiv_some _ _ _ hf
 clear c2 hf hp
 generalize tenF.getD j 0 = t at *
 clear T
 generalize fInt false d = y0 at *
 generalize fInt true d = y1 at *
 go_enter Tryz.func186,Tryz.ntmps186
 go_wp2
 go_ret2
 exact ⟨rfl,rfl⟩
set_option maxRecDepth 100000 in
theorem ex_mul_ta (d : Nat) (p : Int) (h : d < 4503599627370496) (j : Nat) (hp : p = (j : Int)) (hj1 : 1 ≤ j) (hj2 : j ≤ 22) (hb : (FloatKind.f64.format.order (fInt true d) 4831355200913801216 == some .gt) = true) : ExPost d p true (fInt true d) false := by
 intro w T P
 have hm := T.mant
 obtain ⟨b,o,c1,c2⟩ := P
 have e1 : (d : Int) / 4503599627370496 = 0 := by omega
 have cv := conv_d d
 have ng := neg_d d
 have p0 : ((j : Int) == 0) = false := by simp; omega
 have p1 : 0 < (j : Int) := by omega
 have p2 : (j : Int) ≤ 37 := by omega
 have p6 : decide (22 < (j : Int)) = false := by simp; omega
 have p7 : (j : Int) ≤ 22 := by omega
 subst hp
 have g1 : (FloatKind.f64.format.order (fInt true d) 4831355200913801216 == some .gt) = true := hb
 clear c1 c2 hb
 clear T
 generalize fInt false d = y0 at *
 generalize fInt true d = y1 at *
 go_enter Tryz.func186,Tryz.ntmps186
 go_wp2
 go_ret2
 exact ⟨rfl,rfl⟩
set_option maxRecDepth 100000 in
theorem ex_great_ta (d : Nat) (p : Int) (h : d < 4503599627370496) (j : Nat) (hp : p = (j : Int) + 22) (hj1 : 1 ≤ j) (hj2 : j ≤ 15) (g : Nat) (hg : Ieee.double.mul (fInt true d) (tenF.getD j 0) = some g) (hb : (FloatKind.f64.format.order g 4831355200913801216 == some .gt) = true) : ExPost d p true g false := by
 intro w T P
 have hm := T.mant
 obtain ⟨b,o,c1,c2⟩ := P
 have e1 : (d : Int) / 4503599627370496 = 0 := by omega
 have cv := conv_d d
 have ng := neg_d d
 have p0 : ((p : Int) == 0) = false := by simp; omega
 have p1 : 0 < p := by omega
 have p2 : p ≤ 37 := by omega
 have p6 : 22 < p := by omega
 have p5 : p - 22 = (j : Int) := by omega
 have cj := c2 j (by omega)
 have mg := run_fmul_some _ _ _ hg
 have g1 : (FloatKind.f64.format.order g 4831355200913801216 == some .gt) = true := hb
 clear c2 hb hg hp
 generalize tenF.getD j 0 = t at *
 clear T
 generalize fInt false d = y0 at *
 generalize fInt true d = y1 at *
 go_enter Tryz.func186,Tryz.ntmps186
 go_wp2
 go_ret2
 exact ⟨rfl,rfl⟩
set_option maxRecDepth 100000 in
theorem ex_mul_tb (d : Nat) (p : Int) (h : d < 4503599627370496) (j : Nat) (hp : p = (j : Int)) (hj1 : 1 ≤ j) (hj2 : j ≤ 22) (hb : (FloatKind.f64.format.order (fInt true d) 4831355200913801216 == some .gt) = false ∧ (FloatKind.f64.format.order (fInt true d) 14054727237768577024 == some .lt) = true) : ExPost d p true (fInt true d) false := by
 intro w T P
 have hm := T.mant
 obtain ⟨b,o,c1,c2⟩ := P
 have e1 : (d : Int) / 4503599627370496 = 0 := by omega
 have cv := conv_d d
 have ng := neg_d d
 have p0 : ((j : Int) == 0) = false := by simp; omega
 have p1 : 0 < (j : Int) := by omega
 have p2 : (j : Int) ≤ 37 := by omega
 have p6 : decide (22 < (j : Int)) = false := by simp; omega
 have p7 : (j : Int) ≤ 22 := by omega
 subst hp
 have g1 : (FloatKind.f64.format.order (fInt true d) 4831355200913801216 == some .gt) = false := hb.1
 have g2 : (FloatKind.f64.format.order (fInt true d) 14054727237768577024 == some .lt) = true := hb.2
 clear c1 c2 hb
 clear T
 generalize fInt false d = y0 at *
 generalize fInt true d = y1 at *
 go_enter Tryz.func186,Tryz.ntmps186
 go_wp2
 go_ret2
 exact ⟨rfl,rfl⟩
set_option maxRecDepth 100000 in
theorem ex_great_tb (d : Nat) (p : Int) (h : d < 4503599627370496) (j : Nat) (hp : p = (j : Int) + 22) (hj1 : 1 ≤ j) (hj2 : j ≤ 15) (g : Nat) (hg : Ieee.double.mul (fInt true d) (tenF.getD j 0) = some g) (hb : (FloatKind.f64.format.order g 4831355200913801216 == some .gt) = false ∧ (FloatKind.f64.format.order g 14054727237768577024 == some .lt) = true) : ExPost d p true g false := by
 intro w T P
 have hm := T.mant
 obtain ⟨b,o,c1,c2⟩ := P
 have e1 : (d : Int) / 4503599627370496 = 0 := by omega
 have cv := conv_d d
 have ng := neg_d d
 have p0 : ((p : Int) == 0) = false := by simp; omega
 have p1 : 0 < p := by omega
 have p2 : p ≤ 37 := by omega
 have p6 : 22 < p := by omega
 have p5 : p - 22 = (j : Int) := by omega
 have cj := c2 j (by omega)
 have mg := run_fmul_some _ _ _ hg
 have g1 : (FloatKind.f64.format.order g 4831355200913801216 == some .gt) = false := hb.1
 have g2 : (FloatKind.f64.format.order g 14054727237768577024 == some .lt) = true := hb.2
 clear c2 hb hg hp
 generalize tenF.getD j 0 = t at *
 clear T
 generalize fInt false d = y0 at *
 generalize fInt true d = y1 at *
 go_enter Tryz.func186,Tryz.ntmps186
 go_wp2
 go_ret2
 exact ⟨rfl,rfl⟩
set_option maxRecDepth 100000 in
theorem ex_mul_tc (d : Nat) (p : Int) (h : d < 4503599627370496) (j : Nat) (hp : p = (j : Int)) (hj1 : 1 ≤ j) (hj2 : j ≤ 22) (hb : (FloatKind.f64.format.order (fInt true d) 4831355200913801216 == some .gt) = false ∧ (FloatKind.f64.format.order (fInt true d) 14054727237768577024 == some .lt) = false) (f : Nat) (hf : Ieee.double.mul (fInt true d) (tenF.getD j 0) = some f) : ExPost d p true f true := by
 intro w T P
 have hm := T.mant
 obtain ⟨b,o,c1,c2⟩ := P
 have e1 : (d : Int) / 4503599627370496 = 0 := by omega
 have cv := conv_d d
 have ng := neg_d d
 have p0 : ((j : Int) == 0) = false := by simp; omega
 have p1 : 0 < (j : Int) := by omega
 have p2 : (j : Int) ≤ 37 := by omega
 have p6 : decide (22 < (j : Int)) = false := by simp; omega
 have p7 : (j : Int) ≤ 22 := by omega
 subst hp
 have g1 : (FloatKind.f64.format.order (fInt true d) 4831355200913801216 == some .gt) = false := hb.1
 have g2 : (FloatKind.f64.format.order (fInt true d) 14054727237768577024 == some .lt) = false := hb.2
 have cj := c2 j (by omega)
 have mv := run_fmul_some _ _ _ hf
 clear c2 hf hb
 generalize tenF.getD j 0 = t at *
 clear T
 generalize fInt false d = y0 at *
 generalize fInt true d = y1 at *
 go_enter Tryz.func186,Tryz.ntmps186
 go_wp2
 go_ret2
 exact ⟨rfl,rfl⟩
set_option maxRecDepth 100000 in
theorem ex_great_tc (d : Nat) (p : Int) (h : d < 4503599627370496) (j : Nat) (hp : p = (j : Int) + 22) (hj1 : 1 ≤ j) (hj2 : j ≤ 15) (g : Nat) (hg : Ieee.double.mul (fInt true d) (tenF.getD j 0) = some g) (hb : (FloatKind.f64.format.order g 4831355200913801216 == some .gt) = false ∧ (FloatKind.f64.format.order g 14054727237768577024 == some .lt) = false) (f : Nat) (hf : Ieee.double.mul g (tenF.getD 22 0) = some f) : ExPost d p true f true := by
 intro w T P
 have hm := T.mant
 obtain ⟨b,o,c1,c2⟩ := P
 have e1 : (d : Int) / 4503599627370496 = 0 := by omega
 have cv := conv_d d
 have ng := neg_d d
 have p0 : ((p : Int) == 0) = false := by simp; omega
 have p1 : 0 < p := by omega
 have p2 : p ≤ 37 := by omega
 have p6 : 22 < p := by omega
 have p5 : p - 22 = (j : Int) := by omega
 have cj := c2 j (by omega)
 have mg := run_fmul_some _ _ _ hg
 have g1 : (FloatKind.f64.format.order g 4831355200913801216 == some .gt) = false := hb.1
 have g2 : (FloatKind.f64.format.order g 14054727237768577024 == some .lt) = false := hb.2
 have ck := c2 22 (by omega)
 have mv := run_fmul_some _ _ _ hf
 clear c2 hf hb hg hp
 generalize tenF.getD j 0 = t at *
 generalize tenF.getD 22 0 = t2 at *
 clear T
 generalize fInt false d = y0 at *
 generalize fInt true d = y1 at *
 go_enter Tryz.func186,Tryz.ntmps186
 go_wp2
 go_ret2
 exact ⟨rfl,rfl⟩
theorem right_no (d : Nat) (p : Int) (neg : Bool) (f : Nat) : Right d p neg f false := fun h => by cases h
theorem exact_f (d : Nat) (p : Int) (hd : d < 18446744073709551616) (hp1 : -400 ≤ p) (hp2 : p ≤ 400) : ∃ f ok,Right d p false f ok ∧ ExPost d p false f ok := by
 by_cases h : 4503599627370496 ≤ d
 ·exact ⟨0,false,right_no _ _ _ _,ex_big d p false hd h⟩
 have h : d < 4503599627370496 := by omega
 obtain ⟨y1,y2,y3,y4⟩ := fInt_facts false d h
 by_cases h0 : p = 0
 ·refine ⟨fInt false d,true,fun _ => ⟨h,?_⟩,ex_zero_f d p h h0⟩
  subst h0
  simp [fInt]
 by_cases h37 : 37 < p
 ·exact ⟨_,_,right_no _ _ _ _,ex_far_f d p h h37 hp2⟩
 by_cases h22 : p < -22
 ·exact ⟨_,_,right_no _ _ _ _,ex_low_f d p h h22 hp1⟩
 by_cases hneg : p < 0
 ·obtain ⟨j,hj⟩ : ∃ j : Nat,p = -(j : Int) := ⟨(-p).toNat,by omega⟩
  have hv := div_ten false d j (fInt false d) y1 y3 y4 (by omega)
  refine ⟨_,_,fun _ => ⟨h,?_⟩,ex_div_f d p h j hj (by omega) (by omega) _ hv⟩
  rw [show p.toNat = 0 by omega,show (-p).toNat = j by omega,Nat.pow_zero,Nat.mul_one]
 by_cases h23 : p ≤ 22
 ·obtain ⟨j,hj⟩ : ∃ j : Nat,p = (j : Int) := ⟨p.toNat,by omega⟩
  have hv := mul_ten false d j (fInt false d) y1 y3 y4 (by omega)
  cases g1 : (FloatKind.f64.format.order (fInt false d) 4831355200913801216 == some .gt) with
  | true => exact ⟨_,_,right_no _ _ _ _,ex_mul_fa d p h j hj (by omega) (by omega) g1⟩
  | false =>
   cases g2 : (FloatKind.f64.format.order (fInt false d) 14054727237768577024 == some .lt) with
   | true => exact ⟨_,_,right_no _ _ _ _,ex_mul_fb d p h j hj (by omega) (by omega) ⟨g1,g2⟩⟩
   | false =>
    refine ⟨_,_,fun _ => ⟨h,?_⟩,ex_mul_fc d p h j hj (by omega) (by omega) ⟨g1,g2⟩ _ hv⟩
    rw [show p.toNat = j by omega,show (-p).toNat = 0 by omega,Nat.pow_zero]
    rfl
 ·obtain ⟨j,hj⟩ : ∃ j : Nat,p = (j : Int) + 22 := ⟨(p - 22).toNat,by omega⟩
  have hg := mul_ten false d j (fInt false d) y1 y3 y4 (by omega)
  have hr := rn_lt (d * 10 ^ j * 2 ^ unit) 1
  have hrl := rn_le (d * 10 ^ j * 2 ^ unit) 1
  have z1 : negOf (fInt false (d * 10 ^ j)) = false := negOf_word _ _ hr
  have z2 : rungOf (fInt false (d * 10 ^ j)) = rn (d * 10 ^ j * 2 ^ unit) 1 := rungOf_word _ _ hr
  cases g1 : (FloatKind.f64.format.order (fInt false (d * 10 ^ j)) 4831355200913801216 == some .gt) with
  | true => exact ⟨_,_,right_no _ _ _ _,ex_great_fa d p h j hj (by omega) (by omega) _ hg g1⟩
  | false =>
   cases g2 : (FloatKind.f64.format.order (fInt false (d * 10 ^ j)) 14054727237768577024 == some .lt) with
   | true => exact ⟨_,_,right_no _ _ _ _,ex_great_fb d p h j hj (by omega) (by omega) _ hg ⟨g1,g2⟩⟩
   | false =>
    have hle := le15 _ (by rw [z2]; exact hrl) g1 g2
    rw [z2] at hle
    have hn := small_of_le _ hle
    have hV : V (rungOf (fInt false (d * 10 ^ j))) = d * 10 ^ j * 2 ^ unit := by rw [z2]; exact int_exact _ (by omega)
    have hfin : rungOf (fInt false (d * 10 ^ j)) < INF := (fInt_facts false (d * 10 ^ j) (by omega)).2.2.1
    have hv := mul_ten false (d * 10 ^ j) 22 _ z1 hfin hV (by omega)
    refine ⟨_,_,fun _ => ⟨h,?_⟩,ex_great_fc d p h j hj (by omega) (by omega) _ hg ⟨g1,g2⟩ _ hv⟩
    rw [show p.toNat = j + 22 by omega,show (-p).toNat = 0 by omega,Nat.pow_zero,Nat.pow_add 10 j 22,← Nat.mul_assoc]
    rfl
theorem exact_t (d : Nat) (p : Int) (hd : d < 18446744073709551616) (hp1 : -400 ≤ p) (hp2 : p ≤ 400) : ∃ f ok,Right d p true f ok ∧ ExPost d p true f ok := by
 by_cases h : 4503599627370496 ≤ d
 ·exact ⟨0,false,right_no _ _ _ _,ex_big d p true hd h⟩
 have h : d < 4503599627370496 := by omega
 obtain ⟨y1,y2,y3,y4⟩ := fInt_facts true d h
 by_cases h0 : p = 0
 ·refine ⟨fInt true d,true,fun _ => ⟨h,?_⟩,ex_zero_t d p h h0⟩
  subst h0
  simp [fInt]
 by_cases h37 : 37 < p
 ·exact ⟨_,_,right_no _ _ _ _,ex_far_t d p h h37 hp2⟩
 by_cases h22 : p < -22
 ·exact ⟨_,_,right_no _ _ _ _,ex_low_t d p h h22 hp1⟩
 by_cases hneg : p < 0
 ·obtain ⟨j,hj⟩ : ∃ j : Nat,p = -(j : Int) := ⟨(-p).toNat,by omega⟩
  have hv := div_ten true d j (fInt true d) y1 y3 y4 (by omega)
  refine ⟨_,_,fun _ => ⟨h,?_⟩,ex_div_t d p h j hj (by omega) (by omega) _ hv⟩
  rw [show p.toNat = 0 by omega,show (-p).toNat = j by omega,Nat.pow_zero,Nat.mul_one]
 by_cases h23 : p ≤ 22
 ·obtain ⟨j,hj⟩ : ∃ j : Nat,p = (j : Int) := ⟨p.toNat,by omega⟩
  have hv := mul_ten true d j (fInt true d) y1 y3 y4 (by omega)
  cases g1 : (FloatKind.f64.format.order (fInt true d) 4831355200913801216 == some .gt) with
  | true => exact ⟨_,_,right_no _ _ _ _,ex_mul_ta d p h j hj (by omega) (by omega) g1⟩
  | false =>
   cases g2 : (FloatKind.f64.format.order (fInt true d) 14054727237768577024 == some .lt) with
   | true => exact ⟨_,_,right_no _ _ _ _,ex_mul_tb d p h j hj (by omega) (by omega) ⟨g1,g2⟩⟩
   | false =>
    refine ⟨_,_,fun _ => ⟨h,?_⟩,ex_mul_tc d p h j hj (by omega) (by omega) ⟨g1,g2⟩ _ hv⟩
    rw [show p.toNat = j by omega,show (-p).toNat = 0 by omega,Nat.pow_zero]
    rfl
 ·obtain ⟨j,hj⟩ : ∃ j : Nat,p = (j : Int) + 22 := ⟨(p - 22).toNat,by omega⟩
  have hg := mul_ten true d j (fInt true d) y1 y3 y4 (by omega)
  have hr := rn_lt (d * 10 ^ j * 2 ^ unit) 1
  have hrl := rn_le (d * 10 ^ j * 2 ^ unit) 1
  have z1 : negOf (fInt true (d * 10 ^ j)) = true := negOf_word _ _ hr
  have z2 : rungOf (fInt true (d * 10 ^ j)) = rn (d * 10 ^ j * 2 ^ unit) 1 := rungOf_word _ _ hr
  cases g1 : (FloatKind.f64.format.order (fInt true (d * 10 ^ j)) 4831355200913801216 == some .gt) with
  | true => exact ⟨_,_,right_no _ _ _ _,ex_great_ta d p h j hj (by omega) (by omega) _ hg g1⟩
  | false =>
   cases g2 : (FloatKind.f64.format.order (fInt true (d * 10 ^ j)) 14054727237768577024 == some .lt) with
   | true => exact ⟨_,_,right_no _ _ _ _,ex_great_tb d p h j hj (by omega) (by omega) _ hg ⟨g1,g2⟩⟩
   | false =>
    have hle := le15 _ (by rw [z2]; exact hrl) g1 g2
    rw [z2] at hle
    have hn := small_of_le _ hle
    have hV : V (rungOf (fInt true (d * 10 ^ j))) = d * 10 ^ j * 2 ^ unit := by rw [z2]; exact int_exact _ (by omega)
    have hfin : rungOf (fInt true (d * 10 ^ j)) < INF := (fInt_facts true (d * 10 ^ j) (by omega)).2.2.1
    have hv := mul_ten true (d * 10 ^ j) 22 _ z1 hfin hV (by omega)
    refine ⟨_,_,fun _ => ⟨h,?_⟩,ex_great_tc d p h j hj (by omega) (by omega) _ hg ⟨g1,g2⟩ _ hv⟩
    rw [show p.toNat = j + 22 by omega,show (-p).toNat = 0 by omega,Nat.pow_zero,Nat.pow_add 10 j 22,← Nat.mul_assoc]
    rfl
end Go.Proofs.YtalaajniammggaaGreatDoor
