/- Lemmas and contracts of this proof. Conditions: said at each. -/
import Derived.Test.YtambgjpfoceieaaGreatDoorProg
import Derived.Lib.Strings
import Derived.Lib.Slices
import Derived.Lib.Small
import Derived.Lib.Walk
import Derived.Lib.BitFns
set_option maxHeartbeats 4000000
set_option maxRecDepth 100000
namespace Go.Proofs.YtambgjpfoceieaaGreatDoor.K
theorem len_end (s d n:Nat) (sI y:Int) (hI:sI=s) (hs:s≤56) (ht:Lib.bitLen n=s+Lib.bitLen (n/d)) (hm:y=((n/d:Nat):Int)) (hb:n/d<256) :
  (sI+((Lib.len8 (y%256)+9223372036854775808)%18446744073709551616-9223372036854775808)+9223372036854775808)%18446744073709551616-9223372036854775808=((Lib.bitLen n:Nat):Int):=by
 rw[ht,hI]
 generalize n/d=m at *
 have e:y%256=(m:Int):=by omega
 have l:=Lib.len8_of (m:Int) (by omega) (by omega)
 have k:=Lib.bitLen_le8' (m:Int) (by omega) (by omega)
 rw[Int.toNat_natCast] at l k
 rw[e,l]
 generalize Lib.bitLen m=b at *
 omega
theorem len_zero (x:Int) (h0:0≤x) (hb:x<256):(Lib.len8 (x%256)+9223372036854775808)%18446744073709551616-9223372036854775808=((Lib.bitLen x.toNat:Nat):Int):=by
 have e:x%256=x:=by omega
 have l:=Lib.len8_of x h0 (by omega)
 have k:=Lib.bitLen_le8' x h0 (by omega)
 rw[e,l]
 omega
theorem len64_int (x:Int) (w:World) (h0:0≤x) (h1:x≤18446744073709551615) :
  Calls Tryz.prog 146 #[.int .u64 x] w fun e w'=>e = .returned (.int .i64 (Lib.bitLen x.toNat:Nat))∧w=w':=by
 go_enter Tryz.func146,Tryz.ntmps146
 go_wp2
 all_goals (go_ret; refine⟨congrArg Ending.returned (congrArg (Value.int IntKind.i64) ?_),rfl⟩)
 all_goals first
  | with_reducible exact len_zero x h0 (by assumption)
  | with_reducible exact len_end 8 256 x.toNat 8 _ rfl (by omega) (Lib.bitLen_shift8 x.toNat (by omega) (by omega)) (by omega) (by omega)
  | with_reducible exact len_end 16 65536 x.toNat 16 _ rfl (by omega) (Lib.bitLen_shift16 x.toNat (by omega) (by omega)) (by omega) (by omega)
  | with_reducible exact len_end 24 16777216 x.toNat 24 _ rfl (by omega) (Lib.bitLen_shift24 x.toNat (by omega) (by omega)) (by omega) (by omega)
  | with_reducible exact len_end 32 4294967296 x.toNat 32 _ rfl (by omega) (Lib.bitLen_shift32 x.toNat (by omega) (by omega)) (by omega) (by omega)
  | with_reducible exact len_end 40 1099511627776 x.toNat 40 _ rfl (by omega) (Lib.bitLen_shift40 x.toNat (by omega) (by omega)) (by omega) (by omega)
  | with_reducible exact len_end 48 281474976710656 x.toNat 48 _ rfl (by omega) (Lib.bitLen_shift48 x.toNat (by omega) (by omega)) (by omega) (by omega)
  | with_reducible exact len_end 56 72057594037927936 x.toNat 56 _ rfl (by omega) (Lib.bitLen_shift56 x.toNat (by omega) (by omega)) (by omega) (by omega)
end Go.Proofs.YtambgjpfoceieaaGreatDoor.K
