/- Contract: Encode of the document. -/
import Derived.Test.YtebojmjbolphfaaFm
import Derived.Test.YtebojmjbolphfaaFcl
import Derived.Test.YtebojmjbolphfaaPack
import Derived.Deep.RegionHeld3
import Derived.Test.YtebojmjbolphfaaFen2
namespace Go.Proofs.Ytebojmjbolphfaa
open Go Go.RowKit Crc

theorem flags_slice {w : World} {B : Nat} {v : Value} {bs : List Bool} (h : Flags w B v bs) : ∃ ao cap, v = .slice ao bs.length cap := own_slice h
theorem flags_pos {w : World} {B : Nat} {v : Value} {bs : List Bool} (h : Flags w B v bs) (hp : 0 < bs.length) : ∃ g cap, v = .slice (some ⟨g, 0, none⟩) bs.length cap := by
  rcases h.2 with ⟨_, h0⟩ | ⟨g, cap, cur, hv, _⟩
  · omega
  · exact ⟨g, cap, hv⟩
/-- Another row of flags, of a later block, is left by an append. -/
theorem Flags.other {w w' : World} {B B' : Nat} {v v' : Value} {l l' : List Bool} (h : Flags w B v l) (_ho : Flags w B' v' l') (hlt : ∀ k, v'.ownBlock = some k → k < B) (hg : w.grownBy w' v'.ownBlock) : Flags w' B v l := by
  refine ⟨h.1, ?_⟩
  rcases h.2 with hn | ⟨g, cap, cur, rfl, hb, hgg, rest⟩
  · exact .inl hn
  · refine .inr ⟨g, cap, cur, rfl, hb, ?_, rest⟩
    rw [hg.block g (lt_of_block hgg) ?_]; · exact hgg
    intro hk
    have := hlt g hk.symm
    omega
theorem Bv.drew {w : World} {B : Nat} {v : Value} {l : List Nat} (h : Bv w B v l) : Bv w.drew B v l := ⟨h.small, h.len, h.row⟩
theorem Bv.drewN {w : World} {B : Nat} {v : Value} {l : List Nat} (h : Bv w B v l) (n : Nat) : Bv (w.drewN n) B v l := ⟨h.small, h.len, h.row⟩
theorem Flags.drewN {w : World} {B : Nat} {v : Value} {l : List Bool} (h : Flags w B v l) (n : Nat) : Flags (w.drewN n) B v l := h
theorem Flags.drew {w : World} {B : Nat} {v : Value} {l : List Bool} (h : Flags w B v l) : Flags w.drew B v l := h

/-- append(flags, flags..), as one step of a region that draws its order. -/
theorem step_append_flags {ops : Array Oper} {o : Oper} {a : Act} {w : World} {K : Act → World → Prop} {Q : Exit → Act → World → Prop} {E : Prop}
    (hg : o.guard = none) (s x : Operand) (hop : o.op = Op.call { callee := Callee.builtin Builtin.append, args := #[s, x], argTypes := #[65, 65] })
    (B B' : Nat) (v v' : Value) (l l' : List Bool) (hs : a.eval s = v) (hx : a.eval x = v') (hv : Flags w B v l) (hv' : Flags w B' v' l') (hlen : l.length + l'.length ≤ 1048576) (hB : B ≤ w.heap.size) (hpos : 0 < l'.length)
    (hK : ∀ g cap n w', Flags w' B (.slice (some ⟨g, 0, none⟩) n cap) (l ++ l') → w.grownBy w' v.ownBlock → K (a.put o.dst (.slice (some ⟨g, 0, none⟩) n cap)) w') :
    if Region.wanted o (yielded ops a.tmps) = true then Oper.wp Try.prog o a w K Q else E := by
  obtain ⟨i0, hi, hz0, hz1, hz2⟩ := info_parts Try.info4
  obtain ⟨g', cap', rfl⟩ := flags_pos hv' hpos
  refine step_append_own hg s x 65 hop B 4 i0 (.bool false) 1 1 Try.underlying65 hi hz0 hz1 hz2 rfl (by decide) v l.length (boolVs l) hs hv ⟨g', 0, none⟩ l'.length cap' (boolVs l') hx (by rw [boolVs_length, Nat.mul_one]) (hv'.cells (g := g') rfl) (boolVs_one _) (by unfold maxLen; omega) (by omega) hB (fun v3 w3 h1 h2 => ?_)
  rw [← boolVs_append, ← List.length_append] at h1
  obtain ⟨g, cap, rfl⟩ := flags_pos h1 (by rw [List.length_append]; omega)
  exact hK g cap _ w3 h1 h2
/-- How things stand within head: the box of the datagram at block P, its body, and the flags so far. -/
structure Hd (w0 : World) (P : Nat) (cs : Array Value) (sv : Value) (x : List Nat) (w : World) (v : Value) (l : List Bool) : Prop where
  below : Below P w0 w
  size : P < w.heap.size
  box : w.heap[P]? = some (.cells cs 24 (0, 0))
  body : Bv w P sv x
  flags : Flags w P v l
theorem Hd.drew {w0 : World} {P : Nat} {cs : Array Value} {sv : Value} {x : List Nat} {w : World} {v : Value} {l : List Bool} (h : Hd w0 P cs sv x w v l) : Hd w0 P cs sv x w.drew v l :=
  ⟨h.below.drew, h.size, h.box, h.body.drew, h.flags⟩
theorem Hd.call {w0 : World} {P : Nat} {cs : Array Value} {sv : Value} {x : List Nat} {w w' : World} {v : Value} {l : List Bool} (h : Hd w0 P cs sv x w v l) (hb : Below w.heap.size w w') : Hd w0 P cs sv x w' v l :=
  ⟨h.below.trans (hb.mono (Nat.le_of_lt h.size)), Nat.lt_of_lt_of_le h.size hb.size, (hb.block P h.size).trans h.box, h.body.below hb (Nat.le_of_lt h.size), h.flags.below hb (Nat.le_refl _)⟩
theorem Hd.fresh {w0 : World} {P : Nat} {cs : Array Value} {sv : Value} {x : List Nat} {w w' : World} {v v' : Value} {l l' : List Bool} (h : Hd w0 P cs sv x w v l) (hb : Below w.heap.size w w') (hf : Flags w' w.heap.size v' l') : Hd w0 P cs sv x w' v' l' :=
  ⟨(h.call hb).below, (h.call hb).size, (h.call hb).box, (h.call hb).body, hf.lower (Nat.le_of_lt h.size)⟩
theorem Hd.grow {w0 : World} {P : Nat} {cs : Array Value} {sv : Value} {x : List Nat} {w w' : World} {v v' : Value} {l l' : List Bool} (h : Hd w0 P cs sv x w v l) (hg : w.grownBy w' v.ownBlock) (hf : Flags w' P v' l') : Hd w0 P cs sv x w' v' l' := by
  have hlt : ∀ k, v.ownBlock = some k → P ≤ k := fun k hk => (World.ownsRow.lt h.flags k hk).1
  refine ⟨h.below.grown hg (Nat.le_of_lt h.size) hlt, Nat.lt_of_lt_of_le h.size hg.size, grow_keeps h.box h.flags (by decide) hg rfl, h.body.keep (fun b o hb => ?_), hf⟩
  exact World.cell?_of_block (hg.block b (Nat.lt_trans hb h.size) (fun e => by have := hlt b e.symm; omega))
theorem strN_data (x : List Nat) : (strN x).data.toList = x.map UInt8.ofNat := by rw [strN_list]; simp [Lib.bytesOf, Function.comp_def]
theorem strN_size (x : List Nat) : (strN x).size = x.length := by
  have h := congrArg List.length (strN_data x)
  rw [List.length_map, Array.length_toList] at h
  exact h
theorem text_strN (x : List Nat) (hs : ∀ c ∈ x, c < 256) : textBits (strN x).data.toList = natBits x.length ++ bodyBits x := by
  rw [strN_data]
  unfold textBits bodyBits
  rw [List.length_map]
  congr 1
  induction x with
  | nil => rfl
  | cons c x ih =>
    rw [List.map_cons, List.flatMap_cons, List.flatMap_cons, ih (fun d hd => hs d (by simp [hd]))]
    congr 1
    have := hs c (by simp)
    rw [show (UInt8.ofNat c).toNat = c by simp; omega]
theorem own_lt_new {w : World} {B : Nat} {v : Value} {l : List Bool} (h : Flags w B v l) : ∀ k, v.ownBlock = some k → k < w.heap.size := fun k hk => (h.lt k hk).2

set_option maxRecDepth 100000 in
set_option maxHeartbeats 3200000 in
theorem r2Head_any (F T K S A : Nat) (ao : Option Addr) (n cap B : Nat) (x : List Nat) (w : World) (hx : Bv w B (.slice ao n cap) x) (hB : B ≤ w.heap.size) (hF : F < 16) (hT : T < 16) (hK : K = 1 ∨ K = 2) (hS : S ≤ 1099511627776) (hA : A ≤ 1099511627776) (hn : n ≤ 16384) :
    Calls Try.prog 34 #[.agg #[.int .i64 (F : Int), .int .i64 (T : Int), .int .i64 (K : Int), .int .i64 (S : Int), .int .i64 (A : Int), .slice ao n cap]] w
      fun e w' => ∃ v, e = .returned v ∧ w'.ownsRow w.heap.size 5 1 v (headN F T K S A x).length (byteVs (headN F T K S A x)) ∧ Below w.heap.size w w' := by
  obtain ⟨i0, hi, hz0, hz1, hz2⟩ := info_parts Try.info4
  obtain ⟨P, hP⟩ : ∃ P, P = w.heap.size := ⟨_, rfl⟩
  obtain ⟨W, hW⟩ : ∃ W, W = w.alloc (.cells #[.int .i64 (F : Int), .int .i64 (T : Int), .int .i64 (K : Int), .int .i64 (S : Int), .int .i64 (A : Int), .slice ao n cap] 24) := ⟨_, rfl⟩
  have hb0 : Below P w W := by rw [hW, hP]; exact (Below.refl _ w).alloc (Nat.le_refl _) _
  have hq0 : W.heap[P]? = some (.cells #[.int .i64 (F : Int), .int .i64 (T : Int), .int .i64 (K : Int), .int .i64 (S : Int), .int .i64 (A : Int), .slice ao n cap] 24 (0, 0)) := by rw [hW, hP]; exact heap_alloc_new w _
  have HD : Hid (Hd w P #[.int .i64 (F : Int), .int .i64 (T : Int), .int .i64 (K : Int), .int .i64 (S : Int), .int .i64 (A : Int), .slice ao n cap] (.slice ao n cap) x W (.slice none 0 0) []) := hide
    ⟨hb0, by rw [hW, hP]; simp, hq0, (hx.below hb0 (by rw [hP]; exact hB)).mono (by rw [hP]; exact hB), World.ownsRow_nil _ _ _ _⟩
  have HW := hide hW; have HP := hide hP
  obtain ⟨c0, c1, c2, c3, c4, c5⟩ := cell_of_six hq0
  have CK : ∀ w, Calls Try.prog 44 #[.int .u64 (K : Int), .int .i64 2] w fun e w' => ∃ v, e = .returned v ∧ Flags w' w.heap.size v (bitsOf K 2) ∧ Below w.heap.size w w' := fun w => rLow_any K 2 w (by omega) (by omega)
  have CF : ∀ w, Calls Try.prog 44 #[.int .u64 (F : Int), .int .i64 4] w fun e w' => ∃ v, e = .returned v ∧ Flags w' w.heap.size v (bitsOf F 4) ∧ Below w.heap.size w w' := fun w => rLow_any F 4 w (by omega) (by omega)
  have CT : ∀ w, Calls Try.prog 44 #[.int .u64 (T : Int), .int .i64 4] w fun e w' => ∃ v, e = .returned v ∧ Flags w' w.heap.size v (bitsOf T 4) ∧ Below w.heap.size w w' := fun w => rLow_any T 4 w (by omega) (by omega)
  have CA : ∀ w, Calls Try.prog 45 #[.int .u64 (A : Int)] w fun e w' => ∃ v, e = .returned v ∧ Flags w' w.heap.size v (natBits A) ∧ Below w.heap.size w w' := fun w => rNat_any A w (by omega)
  have CS : ∀ w, Calls Try.prog 45 #[.int .u64 (S : Int)] w fun e w' => ∃ v, e = .returned v ∧ Flags w' w.heap.size v (natBits S) ∧ Below w.heap.size w w' := fun w => rNat_any S w (by omega)
  have eF : IntKind.u64.wrap (F : Int) = F := by rw [IntKind.wrap_u64]; omega
  have eT : IntKind.u64.wrap (T : Int) = T := by rw [IntKind.wrap_u64]; omega
  have eK : IntKind.u64.wrap (K : Int) = K := by rw [IntKind.wrap_u64]; omega
  have eA : IntKind.u64.wrap (A : Int) = A := by rw [IntKind.wrap_u64]; omega
  have eS : IntKind.u64.wrap (S : Int) = S := by rw [IntKind.wrap_u64]; omega
  have EF := hide eF; have ET := hide eT; have EA := hide eA; have EK := hide eK; have ES := hide eS
  have HK := hide hK; have HXL := hide hx.bytesIn.1
  have hah := ahd_small A hA; have hsh := ahd_small S hS; have hnh := ahd_body n hn
  have HAH := hide hah; have HSH := hide hsh; have HNH := hide hnh
  rw [← hP]
  clear hW hP eF eT eA eK eS hK hx hB hF hT hS hA hah hsh hnh hb0 hq0
  go_enter Try.func34, Try.ntmps34
  go_wp2_with fail
  rw [← HW.out, ← HP.out]
  have eF := EF.out; have eK := EK.out
  go_region_held3 (fun w' => w'.cell? ⟨P, 2, none⟩ = some (.int .i64 (K : Int)) ∧ w'.cell? ⟨P, 0, none⟩ = some (.int .i64 (F : Int))) (first | exact ⟨c2, c0⟩ | go_keep)
    (first
      | (go_at_call 44; (with_reducible refine (CK _).mono ?_); rintro e w2 ⟨v1, rfl, hf, hb⟩; obtain ⟨g1, cap1, rfl⟩ := flags_pos hf (by rw [bitsOf_length]; decide); have HD := hide (HD.out.drew.fresh hb hf); clear c0 c1 c2 c3 c4 c5; obtain ⟨c0, c1, c2, c3, c4, c5⟩ := cell_of_six HD.out.box; clear hf hb)
      | (go_at_call 44; (with_reducible refine (CF _).mono ?_); rintro e w3 ⟨v2, rfl, hf, hb⟩; obtain ⟨g2, cap2, rfl⟩ := flags_pos hf (by rw [bitsOf_length]; decide); have HN := hide hf; have HD := hide (HD.out.call hb); clear c0 c1 c2 c3 c4 c5; obtain ⟨c0, c1, c2, c3, c4, c5⟩ := cell_of_six HD.out.box; clear hf hb)
      | (refine step_append_flags (by rfl) (.tmp 7) (.tmp 11) (by rfl) _ _ _ _ _ _ (by simp [Act.eval]) (by simp [Act.eval]) HD.out.flags HN.out (by simp [bitsOf_length]) (Nat.le_of_lt HD.out.size) (by rw [bitsOf_length]; decide) ?_; intro g3 cap3 ng3 w4 hf hg; have HD := hide (HD.out.grow hg hf); clear c0 c1 c2 c3 c4 c5; obtain ⟨c0, c1, c2, c3, c4, c5⟩ := cell_of_six HD.out.box; clear hf hg))
  clear eF eK
  go_wp2_with fail
  have eT := ET.out; have eA := EA.out
  go_region_held3 (fun w' => w'.cell? ⟨P, 1, none⟩ = some (.int .i64 (T : Int)) ∧ w'.cell? ⟨P, 4, none⟩ = some (.int .i64 (A : Int))) (first | exact ⟨c1, c4⟩ | go_keep)
    (first
      | (go_at_call 44; (with_reducible refine (CT _).mono ?_); rintro e w5 ⟨v1, rfl, hf, hb⟩; obtain ⟨g1, cap1, rfl⟩ := flags_pos hf (by rw [bitsOf_length]; decide); have HN := hide hf; have HD := hide (HD.out.drew.call hb); clear c0 c1 c2 c3 c4 c5; obtain ⟨c0, c1, c2, c3, c4, c5⟩ := cell_of_six HD.out.box; clear hf hb)
      | (go_at_call 45; (with_reducible refine (CA _).mono ?_); rintro e w6 ⟨v2, rfl, hf, hb⟩; obtain ⟨g2, cap2, rfl⟩ := flags_pos hf (by rw [natBits_length]; omega); have HNA := hide hf; have HLt := hide (own_lt_new HD.out.flags); (try have HN := hide (HN.out.below hb (Nat.le_refl _))); have HD := hide (HD.out.call hb); clear c0 c1 c2 c3 c4 c5; obtain ⟨c0, c1, c2, c3, c4, c5⟩ := cell_of_six HD.out.box; clear hf hb)
      | (refine step_append_flags (by rfl) (.tmp 13) (.tmp 17) (by rfl) _ _ _ _ _ _ (by simp [Act.eval]) (by simp [Act.eval]) HD.out.flags HN.out (by simp [bitsOf_length]) (Nat.le_of_lt HD.out.size) (by rw [bitsOf_length]; decide) ?_; intro g3 cap3 ng3 w7 hf hg; (try have HNA := hide (HNA.out.other HD.out.flags HLt.out hg)); have HD := hide (HD.out.grow hg hf); clear c0 c1 c2 c3 c4 c5; obtain ⟨c0, c1, c2, c3, c4, c5⟩ := cell_of_six HD.out.box; clear hf hg)
      | (refine step_append_flags (by rfl) (.tmp 18) (.tmp 22) (by rfl) _ _ _ _ _ _ (by simp [Act.eval]) (by simp [Act.eval]) HD.out.flags HNA.out (by have := HAH.out; simp [bitsOf_length, natBits_length]; omega) (Nat.le_of_lt HD.out.size) (by rw [natBits_length]; omega) ?_; intro g4 cap4 ng4 w8 hf hg; have HD := hide (HD.out.grow hg hf); clear c0 c1 c2 c3 c4 c5; obtain ⟨c0, c1, c2, c3, c4, c5⟩ := cell_of_six HD.out.box; clear hf hg))
  clear eT eA
  by_cases hK1 : K = 1
  · have kB : ((K : Int) == 1) = true := by simp [hK1]
    have HK1 := hide hK1
    clear hK1
    go_wp2_with fail
    have eS := ES.out
    have hcv := HD.out.body.drew.convert
    have CX : ∀ w, Calls Try.prog 46 #[.string (strN x)] w fun e w' => ∃ v, e = .returned v ∧ Flags w' w.heap.size v (natBits x.length ++ bodyBits x) ∧ Below w.heap.size w w' := fun w => by
      have h := rText_any (strN x) w (by rw [strN_size, ← HXL.out]; omega)
      rwa [text_strN x HD.out.body.small] at h
    have HXT := hide (show (natBits x.length ++ bodyBits x).length ≤ 131200 by rw [List.length_append, natBits_length, bodyBits_length, ← HXL.out]; have := HNH.out; omega)
    have HXp := hide (show 0 < (natBits x.length ++ bodyBits x).length by rw [List.length_append, natBits_length]; omega)
    obtain ⟨sx, hsx⟩ : ∃ sx, sx = strN x := ⟨_, rfl⟩
    obtain ⟨tx, htx⟩ : ∃ tx, tx = natBits x.length ++ bodyBits x := ⟨_, rfl⟩
    rw [← hsx] at hcv CX
    rw [← htx] at CX HXT HXp
    have HSX := hide hsx; have HTX := hide htx
    clear hsx htx
    go_region_held3 (fun w' => w'.cell? ⟨P, 3, none⟩ = some (.int .i64 (S : Int)) ∧ w'.cell? ⟨P, 5, none⟩ = some (.slice ao n cap) ∧ (convert 22 9 (.slice ao n cap)).run Try.prog w' = .ok (.string sx) w') (first | exact ⟨c3, c5, hcv⟩ | go_keep)
      (first
        | (go_at_call 45; (with_reducible refine (CS _).mono ?_); rintro e w9 ⟨v1, rfl, hf, hb⟩; obtain ⟨g5, cap5, rfl⟩ := flags_pos hf (by rw [natBits_length]; omega); have HN := hide hf; have HD := hide (HD.out.drew.call hb); clear c0 c1 c2 c3 c4 c5; obtain ⟨c0, c1, c2, c3, c4, c5⟩ := cell_of_six HD.out.box; clear hcv; have hcv := HD.out.body.convert; rw [← HSX.out] at hcv; clear hf hb)
        | (go_at_call 46; (with_reducible refine (CX _).mono ?_); rintro e w10 ⟨v2, rfl, hf, hb⟩; obtain ⟨g6, cap6, rfl⟩ := flags_pos hf HXp.out; have HNA := hide hf; have HLt := hide (own_lt_new HD.out.flags); (try have HN := hide (HN.out.below hb (Nat.le_refl _))); have HD := hide (HD.out.call hb); clear c0 c1 c2 c3 c4 c5; obtain ⟨c0, c1, c2, c3, c4, c5⟩ := cell_of_six HD.out.box; clear hcv; have hcv := HD.out.body.convert; rw [← HSX.out] at hcv; clear hf hb)
        | (refine step_append_flags (by rfl) (.tmp 27) (.tmp 31) (by rfl) _ _ _ _ _ _ (by simp [Act.eval]) (by simp [Act.eval]) HD.out.flags HN.out (by have := HAH.out; have := HSH.out; simp [bitsOf_length, natBits_length]; omega) (Nat.le_of_lt HD.out.size) (by rw [natBits_length]; omega) ?_; intro g7 cap7 ng7 w11 hf hg; (try have HNA := hide (HNA.out.other HD.out.flags HLt.out hg)); have HD := hide (HD.out.grow hg hf); clear c0 c1 c2 c3 c4 c5; obtain ⟨c0, c1, c2, c3, c4, c5⟩ := cell_of_six HD.out.box; clear hcv; have hcv := HD.out.body.convert; rw [← HSX.out] at hcv; clear hf hg)
        | (refine step_append_flags (by rfl) (.tmp 32) (.tmp 36) (by rfl) _ _ _ _ _ _ (by simp [Act.eval]) (by simp [Act.eval]) HD.out.flags HNA.out (by have := HAH.out; have := HSH.out; have := HXT.out; simp [bitsOf_length, natBits_length]; omega) (Nat.le_of_lt HD.out.size) HXp.out ?_; intro g8 cap8 ng8 w12 hf hg; have HD := hide (HD.out.grow hg hf); clear c0 c1 c2 c3 c4 c5; obtain ⟨c0, c1, c2, c3, c4, c5⟩ := cell_of_six HD.out.box; clear hcv; have hcv := HD.out.body.convert; rw [← HSX.out] at hcv; clear hf hg))
    clear hcv eS
    have hform : bitsOf K 2 ++ bitsOf F 4 ++ bitsOf T 4 ++ natBits A ++ natBits S ++ tx = formBits F T K S A x := by
      unfold formBits
      rw [if_pos HK1.out, HTX.out, dataBits, headBits, HK1.out]; simp [List.append_assoc]
    have HFo := hide hform
    have hle : (bitsOf K 2 ++ bitsOf F 4 ++ bitsOf T 4 ++ natBits A ++ natBits S ++ tx).length ≤ 1048576 := by
      have := HAH.out; have := HSH.out; have := HXT.out; simp [bitsOf_length, natBits_length]; omega
    have HLE := hide hle
    clear hform hle
    all_goals
      go_wp2_with fail
      refine (rPack_any _ P _ _ HLE.out HD.out.flags).mono ?_
      rintro e w13 ⟨v, rfl, ho, hb⟩
      rw [HFo.out] at ho
      obtain ⟨ao13, cap13, rfl⟩ := own_slice ho
      have HO := hide ho; have HBf := hide (HD.out.call hb).below; have Hsz := hide (Nat.le_of_lt HD.out.size)
      clear ho hb
      go_wp2
      go_ret
      refine ⟨_, rfl, ?_, HBf.out⟩
      exact ownsRow_lower HO.out Hsz.out
  · have kB : ((K : Int) == 1) = false := by simp; omega
    have HK1 := hide hK1
    clear hK1
    have hform : bitsOf K 2 ++ bitsOf F 4 ++ bitsOf T 4 ++ natBits A = formBits F T K S A x := by
      unfold formBits
      rw [if_neg HK1.out, headBits]; simp [List.append_assoc]
    have HFo := hide hform
    have hle : (bitsOf K 2 ++ bitsOf F 4 ++ bitsOf T 4 ++ natBits A).length ≤ 1048576 := by
      have := HAH.out; simp [bitsOf_length, natBits_length]; omega
    have HLE := hide hle
    clear hform hle
    all_goals
      go_wp2_with fail
      refine (rPack_any _ P _ _ HLE.out HD.out.flags).mono ?_
      rintro e w13 ⟨v, rfl, ho, hb⟩
      rw [HFo.out] at ho
      obtain ⟨ao13, cap13, rfl⟩ := own_slice ho
      have HO := hide ho; have HBf := hide (HD.out.call hb).below; have Hsz := hide (Nat.le_of_lt HD.out.size)
      clear ho hb
      go_wp2
      go_ret
      refine ⟨_, rfl, ?_, HBf.out⟩
      exact ownsRow_lower HO.out Hsz.out
end Go.Proofs.Ytebojmjbolphfaa
namespace Go.Proofs.Ytebojmjbolphfaa
open Go Go.RowKit Crc

set_option maxRecDepth 100000 in
set_option maxHeartbeats 1600000 in
theorem r2Encode_no (f t k s a : Int) (ao : Option Addr) (n cap : Nat) (w : World) (hn : n ≤ 140737488355328) (hc : ckB f t k s a n = false) :
    Calls Try.prog 17 #[.agg #[.int .i64 f, .int .i64 t, .int .i64 k, .int .i64 s, .int .i64 a, .slice ao n cap]] w
      fun e w' => e = .returned (.tuple #[.slice none 0 0, .int .i64 21]) ∧ Below w.heap.size w w' := by
  have C := r2Check_any f t k s a ao n cap (w.alloc (.cells #[.int .i64 f, .int .i64 t, .int .i64 k, .int .i64 s, .int .i64 a, .slice ao n cap] 24)) hn
  rw [ckErr_no hc] at C
  have HB := hide ((Below.refl w.heap.size w).alloc (Nat.le_refl _) (.cells #[.int .i64 f, .int .i64 t, .int .i64 k, .int .i64 s, .int .i64 a, .slice ao n cap] 24))
  clear hc hn
  go_enter Try.func17, Try.ntmps17
  go_wp2_with fail
  refine C.mono ?_
  clear C
  rintro e w1 ⟨rfl, hb⟩
  have HB1 := hide (HB.out.trans (hb.mono (by simp))); clear hb
  go_wp2
  go_ret2
  exact ⟨rfl, HB1.out⟩

set_option maxRecDepth 100000 in
set_option maxHeartbeats 3200000 in
theorem r2Encode_ok (F T K S A : Nat) (ao : Option Addr) (n cap B : Nat) (x : List Nat) (w : World) (hx : Bv w B (.slice ao n cap) x) (hB : B ≤ w.heap.size) (hc : ckB F T K S A n = true)
    (hF : F < 16) (hT : T < 16) (hK : K = 1 ∨ K = 2) (hS : S ≤ 1099511627776) (hA : A ≤ 1099511627776) (hn : n ≤ 16384) :
    Calls Try.prog 17 #[.agg #[.int .i64 (F : Int), .int .i64 (T : Int), .int .i64 (K : Int), .int .i64 (S : Int), .int .i64 (A : Int), .slice ao n cap]] w
      fun e w' => ∃ v, e = .returned (.tuple #[v, .int .i64 0]) ∧ w'.ownsRow w.heap.size 5 1 v (formN F T K S A x).length (byteVs (formN F T K S A x)) ∧ Below w.heap.size w w' := by
  obtain ⟨i0, hi, hz0, hz1, hz2⟩ := info_parts Try.info5
  obtain ⟨H0, hH0⟩ : ∃ H0, H0 = w.heap.size := ⟨_, rfl⟩
  have HH := hide hH0
  obtain ⟨W, hW⟩ : ∃ W, W = w.alloc (.cells #[.int .i64 (F : Int), .int .i64 (T : Int), .int .i64 (K : Int), .int .i64 (S : Int), .int .i64 (A : Int), .slice ao n cap] 24) := ⟨_, rfl⟩
  have C := r2Check_any F T K S A ao n cap W (by omega)
  rw [ckErr_ok hc] at C
  have HB0 := hide (by rw [hW, hH0]; exact (Below.refl _ w).alloc (Nat.le_refl _) _ : Below H0 w W)
  have HX0 := hide (hx.below HB0.out (by rw [hH0]; exact hB))
  have HP0 := hide (by rw [hW, hH0]; exact heap_alloc_new w _ : W.heap[H0]? = some (.cells #[.int .i64 (F : Int), .int .i64 (T : Int), .int .i64 (K : Int), .int .i64 (S : Int), .int .i64 (A : Int), .slice ao n cap] 24 (0, 0)))
  have hszW : H0 < W.heap.size := by rw [hW, hH0]; simp
  have HszW := hide hszW
  have HW := hide hW
  have hBH : B ≤ H0 := by rw [hH0]; exact hB
  have hle : (formBits F T K S A x).length ≤ 131275 := formBits_le F T K S A x hS hA (by rw [← hx.bytesIn.1]; exact hn)
  have HLE := hide hle
  have HHEAD := hide (fun (w' : World) (h2 : Bv w' B (.slice ao n cap) x) (h3 : B ≤ w'.heap.size) => r2Head_any F T K S A ao n cap B x w' h2 h3 hF hT hK hS hA hn)
  rw [← hH0]
  clear hx hB hc hF hT hK hS hA hn hW hszW hH0 hle
  go_enter Try.func17, Try.ntmps17
  go_wp2_with fail
  rw [← HW.out, ← HH.out]
  refine C.mono ?_
  clear C
  rintro e w1 ⟨rfl, b1⟩
  obtain ⟨c0, c1, c2, c3, c4, c5⟩ := cell_of_six ((b1.block H0 HszW.out).trans HP0.out)
  have HB1 := hide (HB0.out.trans (b1.mono (Nat.le_of_lt HszW.out)))
  have HX1 := hide (HX0.out.below b1 (by have := HszW.out; omega))
  have h1sz : H0 ≤ w1.heap.size := Nat.le_trans (Nat.le_of_lt HszW.out) b1.size
  have H1sz := hide h1sz
  clear b1 h1sz
  go_wp2_with fail
  refine (HHEAD.out w1 HX1.out (Nat.le_trans hBH H1sz.out)).mono ?_
  obtain ⟨pb, hpb⟩ : ∃ pb, pb = headN F T K S A x := ⟨_, rfl⟩
  rw [← hpb]
  have hpl : pb.length ≤ 131072 := by rw [hpb, headN, packed_length]; have := HLE.out; omega
  have hps : ∀ c ∈ pb, c < 256 := by rw [hpb]; exact packed_small _
  have HPL := hide hpl; have HPS := hide hps; have HPB := hide hpb
  clear hpl hps hpb
  rintro e w4 ⟨v4, rfl, ho4, b4⟩
  obtain ⟨ao4, cap4, rfl⟩ := own_slice ho4
  have HB4 := hide (HB1.out.trans (b4.mono H1sz.out))
  have HO4 := hide (ownsRow_lower ho4 H1sz.out)
  have HV4 := hide (Bv.of_own ho4 HPS.out (by have := HPL.out; omega))
  have h04 : H0 ≤ w4.heap.size := Nat.le_trans H1sz.out b4.size
  have H04 := hide h04
  clear ho4 b4 h04 c0 c1 c2 c3 c4 c5
  obtain ⟨pn, hpn⟩ : ∃ pn, pn = pb.length := ⟨_, rfl⟩
  have HPN := hide hpn
  rw [← hpn] at HO4 HV4 HPL ⊢
  clear hpn
  have CS := r2Sum_any _ (.slice ao4 pn cap4) pb w4 HV4.out
  have hsl := sumN_lt pb
  obtain ⟨sm, hsm⟩ : ∃ sm, sm = sumN pb := ⟨_, rfl⟩
  rw [← hsm] at CS hsl
  have HSM := hide hsm
  clear hsm
  go_wp2_with fail
  refine CS.mono ?_
  clear CS
  rintro e w' ⟨rfl, rfl⟩
  go_wp2_with (at_builtin; refine wpList_append_own _ rfl (.tmp 16) (.tmp 28) 22 rfl H0 5 i0 (.int .u8 0) 1 1 Try.underlying22 hi hz0 hz1 hz2 rfl (by decide) (.slice ao4 pn cap4) pn (byteVs pb) rfl (HO4.out.alloc _) ⟨w4.heap.size, 0, none⟩ 4 4 (byteVs (be32 sm)) rfl rfl (by rw [be32_vs]; exact four_news (heap_alloc_at (by simp) rfl)) (byteVs_one _) (by have := HPL.out; unfold maxLen; omega) (by have := HPL.out; omega) (by have := H04.out; simp <;> omega) ?_; intro v5 w5 hown5 hgrow5 hnil5; clear hnil5; have HO5 := hide hown5; have HB5 := hide ((HB4.out.alloc (by have := H04.out; simp <;> omega) _).grown hgrow5 (by have := H04.out; simp <;> omega) (fun k h => (HO4.out.lt k h).1)); clear hown5 hgrow5)
  go_ret2
  refine ⟨_, rfl, ?_, HB5.out⟩
  have hf : formN F T K S A x = pb ++ be32 sm := by unfold formN sealed; rw [← HPB.out, ← HSM.out]
  have h5 := HO5.out
  rw [hf, byteVs_append, List.length_append, show (be32 sm).length = 4 from rfl, ← HPN.out]
  exact h5

theorem r2Encode_any (f t k s a : Int) (ao : Option Addr) (n cap B : Nat) (x : List Nat) (w : World) (hx : Bv w B (.slice ao n cap) x) (hB : B ≤ w.heap.size) :
    Calls Try.prog 17 #[.agg #[.int .i64 f, .int .i64 t, .int .i64 k, .int .i64 s, .int .i64 a, .slice ao n cap]] w
      fun e w' => ∃ v, e = .returned (.tuple #[v, .int .i64 (ckErr f t k s a n)]) ∧ w'.ownsRow w.heap.size 5 1 v (encN f t k s a x).length (byteVs (encN f t k s a x)) ∧ Below w.heap.size w w' := by
  have hn := hx.bytesIn.1
  cases hc : ckB f t k s a n with
  | false =>
    rw [ckErr_no hc, encN_no (by rw [← hn]; exact hc)]
    exact (r2Encode_no f t k s a ao n cap w (by have := hx.len; omega) hc).mono fun e w' ⟨h1, h2⟩ => ⟨_, h1, World.ownsRow_nil _ _ _ _, h2⟩
  | true =>
    obtain ⟨F, T, K, S, A, rfl, rfl, rfl, rfl, rfl, hF, hT, _, hK, hS, hA, hn2, _⟩ := ck_nat hc
    rw [ckErr_ok hc, encN_ok (by rw [← hn]; exact hc)]
    exact r2Encode_ok F T K S A ao n cap B x w hx hB hc hF hT hK hS hA hn2
end Go.Proofs.Ytebojmjbolphfaa
