import Derived.Test.YtlhnlcbcikbokaaGreatDoorRiP
import Derived.Test.YtlhnlcbcikbokaaGreatDoorRiR
import Derived.Test.YtlhnlcbcikbokaaGreatDoorProg
import Derived.KernelRfl
set_option linter.unusedVariables false
set_option maxRecDepth 100000
namespace Go.Proofs.YtlhnlcbcikbokaaGreatDoor
open Go.Lift
def tab:List (TypeId×Ty):=[(2,(.int .i64)),(3,(.int .i64)),(4,.bool),(5,(.int .u8)),(9,.str),(23,(.slice (.pair (.int .u8) (.pair (.int .i64) (.pair (.int .i64) (.pair (.slice (.pair .str (.pair (.int .i64) .unit))) .unit)))))),(24,(.slice .str)),(25,(.slice (.pair .str (.pair (.int .i64) (.pair (.int .i64) (.pair (.slice (.pair .str (.pair (.int .i64) .unit))) (.pair (.slice (.pair (.int .u8) (.pair (.int .i64) (.pair (.int .i64) (.pair (.int .i64) .unit))))) (.pair (.slice (.pair (.int .i64) (.pair (.int .u64) .unit))) (.pair (.slice (.pair (.int .i64) (.pair (.int .u64) .unit))) .unit))))))))),(27,(.pair (.slice (.pair (.int .u8) (.pair (.int .i64) (.pair (.int .i64) (.pair (.slice (.pair .str (.pair (.int .i64) .unit))) .unit))))) (.pair (.slice .str) (.pair (.slice (.pair .str (.pair (.int .i64) (.pair (.int .i64) (.pair (.slice (.pair .str (.pair (.int .i64) .unit))) (.pair (.slice (.pair (.int .u8) (.pair (.int .i64) (.pair (.int .i64) (.pair (.int .i64) .unit))))) (.pair (.slice (.pair (.int .i64) (.pair (.int .u64) .unit))) (.pair (.slice (.pair (.int .i64) (.pair (.int .u64) .unit))) .unit)))))))) .unit)))),(29,(.int .i64)),(31,(.pair (.int .u8) (.pair (.int .i64) (.pair (.int .i64) (.pair (.int .i64) .unit))))),(32,(.int .u64)),(40,(.slice (.int .u8))),(64,(.slice (.pair .str (.pair (.int .i64) .unit)))),(65,(.slice (.pair (.int .u8) (.pair (.int .i64) (.pair (.int .i64) (.pair (.int .i64) .unit)))))),(66,(.slice (.pair (.int .i64) (.pair (.int .u64) .unit)))),(68,(.pair .str (.pair (.int .i64) (.pair (.int .i64) (.pair (.slice (.pair .str (.pair (.int .i64) .unit))) (.pair (.slice (.pair (.int .u8) (.pair (.int .i64) (.pair (.int .i64) (.pair (.int .i64) .unit))))) (.pair (.slice (.pair (.int .i64) (.pair (.int .u64) .unit))) (.pair (.slice (.pair (.int .i64) (.pair (.int .u64) .unit))) .unit)))))))),(70,(.pair (.int .u8) (.pair (.int .i64) (.pair (.int .i64) (.pair (.slice (.pair .str (.pair (.int .i64) .unit))) .unit))))),(72,(.pair .str (.pair (.int .i64) .unit))),(74,(.pair (.int .i64) (.pair (.int .u64) .unit))),(77,(.pair (.slice (.int .u8)) (.pair (.int .i64) .unit))),(79,(.pair (.pair (.slice (.int .u8)) (.pair (.int .i64) .unit)) (.pair .bool .unit))),(90,(.pair (.pair (.slice (.int .u8)) (.pair (.int .i64) .unit)) (.pair .bool .unit))),(95,(.ptr (.pair (.pair (.slice (.int .u8)) (.pair (.int .i64) .unit)) (.pair .bool .unit)))),(97,.fn),(99,.fn),(102,.fn),(122,(.slice (.int .i64))),(126,(.ptr (.pair (.pair (.slice (.int .u8)) (.pair (.int .i64) .unit)) (.pair .bool .unit)))),(138,.fn),(141,.fn),(146,.fn),(156,(.arr 3 (.int .i64))),(186,(.slice (.pair (.int .i64) (.pair (.int .i64) .unit)))),(190,(.pair (.int .i64) (.pair (.int .i64) .unit))),(193,(.mp .str .bool)),(195,(.int .u64)),(204,.fn),(206,(.ptr (.pair (.slice (.int .u8)) (.pair (.int .i64) .unit)))),(208,(.int .u8)),(209,(.arr 3 (.int .u8))),(211,(.pair .str (.pair (.arr 3 (.int .u8)) .unit))),(212,(.arr 35 (.pair .str (.pair (.arr 3 (.int .u8)) .unit)))),(223,.fn)]
theorem mixed:Tryz.prog.follows .mixedOrders=true:=by kernel_rfl
theorem tabOk:TabOk Tryz.prog tab:=tabOk_of (by kernel_rfl) (by kernel_rfl) (by kernel_rfl)
abbrev Y0:Type:=(List Int)×(Int×(Int×((List ((List Int)×(Int×Unit)))×((List (Int×(Int×(Int×(Int×Unit)))))×((List (Int×(Int×Unit)))×((List (Int×(Int×Unit)))×Unit))))))
abbrev Y1:Type:=(List Int)×(Int×Unit)
abbrev Y2:Type:=List (Int×(Int×(Int×((List Y1)×Unit))))
abbrev Y3:Type:=Y1×(Bool×Unit)
abbrev Y4:Type:=Y2×((List (List Int))×((List Y0)×Unit))
abbrev Y5:Type:=Int×(Int×Unit)
abbrev Y6:Type:=List Int
abbrev Y7:Type:=Int×(Int×(Int×((List Y1)×Unit)))
abbrev Y8:Type:=Int×(Int×Y5)
abbrev Y9:Type:=Y3×Unit
abbrev Y10:Type:=Unit×Unit
abbrev Y11:Type:=List Y5
abbrev Y12:Type:=List Y1
abbrev Y13:Type:=Unit×(Int×Unit)
abbrev Y14:Type:=List Y0
abbrev Y15:Type:=List Y6
abbrev Y16:Type:=Y1×Int×Int
abbrev Y17:Type:=List Y8
abbrev Y18:Type:=Y4×Int
abbrev Y19:Type:=Y3×Int
abbrev Y20:Type:=Int×Unit
abbrev Y21:Type:=Y3×Y0
abbrev Z0:Ty:=.pair .str (.pair (.int .i64) (.pair (.int .i64) (.pair (.slice (.pair .str (.pair (.int .i64) .unit))) (.pair (.slice (.pair (.int .u8) (.pair (.int .i64) (.pair (.int .i64) (.pair (.int .i64) .unit))))) (.pair (.slice (.pair (.int .i64) (.pair (.int .u64) .unit))) (.pair (.slice (.pair (.int .i64) (.pair (.int .u64) .unit))) .unit))))))
abbrev Z1:Ty:=.pair (.int .u8) (.pair (.int .i64) (.pair (.int .i64) (.pair (.slice (.pair .str (.pair (.int .i64) .unit))) .unit)))
abbrev Z2:Ty:=.pair (.slice (.int .u8)) (.pair (.int .i64) .unit)
abbrev Z3:Ty:=.int .i64
abbrev Z4:Ty:=.pair (.slice Z1) (.pair (.slice .str) (.pair (.slice Z0) .unit))
abbrev Z5:Ty:=.pair (.int .u8) (.pair Z3 (.pair Z3 (.pair Z3 .unit)))
abbrev Z6:Ty:=.pair Z3 (.pair (.int .u64) .unit)
abbrev Z7:Ty:=.pair Z2 (.pair .bool .unit)
abbrev Z8:Ty:=.pair .str (.pair Z3 .unit)
abbrev Z9:Ty:=.slice (.int .u8)
abbrev Z10:Ty:=.pair Z3 (.pair Z3 .unit)
abbrev Z11:Ty:=.slice Z3
abbrev Z12:Ty:=.slice Z1
abbrev Z13:Ty:=.int .u8
abbrev Z14:Ty:=.int .u64
abbrev Y22:Type:=Int×Int×Y3×Y17×Y6×Int×Int×Unit×Y12×Y17×Y11×Y11×Y6×Int×Int×Unit×Y12×Y17×Y11×Y11
abbrev Y23:Type:=Int×Int×Y3×Y12×Y6×Int×Int×Unit×Y12×Y17×Y11×Y11×Y6×Int×Int×Unit×Y12×Y17×Y11×Y11
abbrev Y24:Type:=Int×Int×Y3×Y6×Int×Int×Unit×Y12×Y17×Y11×Y11×Y6×Int×Int×Y12×Y17×Y11×Y11
abbrev Y25:Type:=Int×Int×Y3×Y14×Unit×Y2×Y15×Y14×Unit×Y2×Y15×Y14×Unit×Y2×Y15×Y14×Y6
abbrev Y26:Type:=Int×Int×Y3×Y15×Unit×Y2×Y15×Y14×Unit×Y2×Y15×Y14×Unit×Y2×Y15×Y14×Y6
abbrev Y27:Type:=Int×Int×Y3×Y2×Unit×Y2×Y15×Y14×Unit×Y2×Y15×Y14×Unit×Y2×Y15×Y14×Y6
abbrev Y28:Type:=Y6×Int×Int×Unit×Y2×Y15×Y14×Y3×Unit×Y2×Y15×Y14
abbrev Y29:Type:=Int×Int×Y3×Y12×Int×Int×Int×Unit×Y12×Y7
abbrev Y30:Type:=Y6×Int×Int×Y2×Int×Int×Y12×Int×Int×Y6
abbrev Y31:Type:=Int×Y4×Y6
def Tz0:LT:={ live:=[],keep:=[] }
noncomputable def Ez0:Env2:={ tab:=tab,fs:=[],inl:=[] }
def nwire_valid (x:Y1):Option (Bool):=
 (bif (decide ((List.length x.1:Int)≤(200000:Int))) then (bif (decide (x.2.1≥(0:Int))) then (some (decide (x.2.1≤(List.length x.1:Int)))) else (some false)) else (some false))
def mwire_valid (N:Nat) (x:Y1):Option (Bool):=nwire_valid x
theorem jz0 (N:Nat) (x:Y1):rise (Ez0) Tz0 6 N Tryz.f138 [Z2] [.bool] [false] x=nwire_valid x:=by kernel_rfl
theorem lz0 (N:Nat) (x:Y1):rise (Ez0) Tz0 6 N Tryz.f138 [Z2] [.bool] [false] x=mwire_valid N x:=(jz0 N x).trans rfl
def cwire_valid (x:Y1):Option (Bool):=mwire_valid big x
def Gz0:Fn2:=⟨[Z2],[.bool],[false],fun x=>cwire_valid x⟩
theorem Lz0:Rises Tryz.prog 138 Gz0:=rises_of (E:=Ez0) ⟨tabOk,fsNil2,fun _ _ _=>rfl,mixed,inlNil,rcsNil,owsNil⟩ Tryz.func138 rfl (by decide) (by kernel_rfl) (by kernel_rfl) (by kernel_rfl) (by kernel_rfl) (fun x r _ h=>⟨Tz0,6,big,(lz0 big x).trans h⟩)
def Tz1:LT:={ live:=[],keep:=[] }
noncomputable def Ez1:Env2:={ tab:=tab,fs:=[],inl:=[] }
def nwire_left (x:Y1):Option (Int):=
 (let x1:Int:=(IntKind.i64.wrap ((List.length x.1:Int) - x.2.1));(some x1))
def mwire_left (N:Nat) (x:Y1):Option (Int):=nwire_left x
theorem jz1 (N:Nat) (x:Y1):rise (Ez1) Tz1 6 N Tryz.f142 [Z2] [Z3] [false] x=nwire_left x:=by kernel_rfl
theorem lz1 (N:Nat) (x:Y1):rise (Ez1) Tz1 6 N Tryz.f142 [Z2] [Z3] [false] x=mwire_left N x:=(jz1 N x).trans rfl
def cwire_left (x:Y1):Option (Int):=mwire_left big x
def Gz1:Fn2:=⟨[Z2],[Z3],[false],fun x=>cwire_left x⟩
theorem Lz1:Rises Tryz.prog 142 Gz1:=rises_of (E:=Ez1) ⟨tabOk,fsNil2,fun _ _ _=>rfl,mixed,inlNil,rcsNil,owsNil⟩ Tryz.func142 rfl (by decide) (by kernel_rfl) (by kernel_rfl) (by kernel_rfl) (by kernel_rfl) (fun x r _ h=>⟨Tz1,6,big,(lz1 big x).trans h⟩)
def Tz2:LT:={ live:=[],keep:=[] }
def Tz3:LT:={ live:=[],keep:=[] }
def Tz4:LT:={ live:=[(3,[0,4,10])],keep:=[(15,[0,4,5,10])] }
def Tz5:LT:={ live:=[],keep:=[(14,[1,2,4]),(15,[1,2,4])] }
noncomputable def Ez5:Env2:={ tab:=tab,fs:=[(138,Gz0),(142,Gz1)],inl:=[(139,Tryz.f139,Tz4),(140,Tryz.f140,Tz3),(160,Tryz.f160,Tz2)] }
noncomputable def ez5_0 (v:Int×Int×Y1×Y20×Y6×Int):St:={ s:=[(0,(.clo 160 (.pair (.loc 0 []) .unit))),(4,(.val ⟨Z14,v.1⟩)),(10,(.val ⟨Z3,v.2.1⟩))],l:=[(0,.var (.ptr Z2) (.loc 1 [])),(1,.var Z2 (.val ⟨Z2,v.2.2.1⟩)),(2,.var Z2 (.pair (.row 3) (.val ⟨(.pair Z3 .unit),v.2.2.2.1⟩))),(3,.row Z13 v.2.2.2.2.1)],k:=[(4096,[(1,(.val ⟨Z14,v.2.2.2.2.2⟩)),(2,(.loc 1 [])),(4,(.loc 2 []))])],b:=16842752 }
def hwire_Unvary_0 (self0:Int×Int×Y1×Y20×Y6×Int→Option Y16) (v:Int×Int×Y1×Y20×Y6×Int):Option Y16:=
 (bif (decide (v.2.1 < (10:Int))) then ((cwire_left v.2.2.1).bind fun x3=>(bif (x3==(0:Int)) then (let x4:Y1:=(([]:Y6),((0:Int),()));(some (x4,(0:Int),(24:Int)))) else ((getI v.2.2.1.1 v.2.2.1.2.1).bind fun x5=>(let x6:Int:=(IntKind.i64.wrap (v.2.2.1.2.1+(1:Int)));(let x7:Y1:=(v.2.2.1.1,(x6,v.2.2.1.2.2));(bif (decide (v.2.1 > (0:Int))) then (bif (v.2.1==(9:Int)) then (bif (x5==(0:Int)) then (let x8:Y1:=(([]:Y6),((0:Int),()));(some (x8,(0:Int),(12:Int)))) else (bif (decide (x5 > (1:Int))) then (let x9:Y1:=(([]:Y6),((0:Int),()));(some (x9,(0:Int),(12:Int)))) else (let x10:Int:=(IntKind.u64.wrap (x5.tmod (128:Int)));(let x11:Int:=(IntKind.i64.wrap ((7:Int) * v.2.1));(bif (decide (x11 < 0)) then none else (let x12:Int:=(IntKind.u64.wrap (x10 * 2 ^ (min (Int.toNat x11) 64)));(bif (decide (x5 < (128:Int))) then (bif (decide ((bits .or .u64 v.1 x12) > v.2.2.2.2.2)) then (let x13:Y1:=(([]:Y6),((0:Int),()));(some (x13,(0:Int),(4:Int)))) else (some (x7,(bits .or .u64 v.1 x12),(0:Int)))) else (let x14:Int:=(IntKind.i64.wrap (v.2.1+(1:Int)));(self0 ((bits .or .u64 v.1 x12),x14,x7,v.2.2.2.1,v.2.2.2.2.1,v.2.2.2.2.2)))))))))) else (bif (x5==(0:Int)) then (let x15:Y1:=(([]:Y6),((0:Int),()));(some (x15,(0:Int),(12:Int)))) else (let x16:Int:=(IntKind.u64.wrap (x5.tmod (128:Int)));(let x17:Int:=(IntKind.i64.wrap ((7:Int) * v.2.1));(bif (decide (x17 < 0)) then none else (let x18:Int:=(IntKind.u64.wrap (x16 * 2 ^ (min (Int.toNat x17) 64)));(bif (decide (x5 < (128:Int))) then (bif (decide ((bits .or .u64 v.1 x18) > v.2.2.2.2.2)) then (let x19:Y1:=(([]:Y6),((0:Int),()));(some (x19,(0:Int),(4:Int)))) else (some (x7,(bits .or .u64 v.1 x18),(0:Int)))) else (let x20:Int:=(IntKind.i64.wrap (v.2.1+(1:Int)));(self0 ((bits .or .u64 v.1 x18),x20,x7,v.2.2.2.1,v.2.2.2.2.1,v.2.2.2.2.2)))))))))) else (bif (v.2.1==(9:Int)) then (bif (decide (x5 > (1:Int))) then (let x21:Y1:=(([]:Y6),((0:Int),()));(some (x21,(0:Int),(12:Int)))) else (let x22:Int:=(IntKind.u64.wrap (x5.tmod (128:Int)));(let x23:Int:=(IntKind.i64.wrap ((7:Int) * v.2.1));(bif (decide (x23 < 0)) then none else (let x24:Int:=(IntKind.u64.wrap (x22 * 2 ^ (min (Int.toNat x23) 64)));(bif (decide (x5 < (128:Int))) then (bif (decide ((bits .or .u64 v.1 x24) > v.2.2.2.2.2)) then (let x25:Y1:=(([]:Y6),((0:Int),()));(some (x25,(0:Int),(4:Int)))) else (some (x7,(bits .or .u64 v.1 x24),(0:Int)))) else (let x26:Int:=(IntKind.i64.wrap (v.2.1+(1:Int)));(self0 ((bits .or .u64 v.1 x24),x26,x7,v.2.2.2.1,v.2.2.2.2.1,v.2.2.2.2.2))))))))) else (let x27:Int:=(IntKind.u64.wrap (x5.tmod (128:Int)));(let x28:Int:=(IntKind.i64.wrap ((7:Int) * v.2.1));(bif (decide (x28 < 0)) then none else (let x29:Int:=(IntKind.u64.wrap (x27 * 2 ^ (min (Int.toNat x28) 64)));(bif (decide (x5 < (128:Int))) then (bif (decide ((bits .or .u64 v.1 x29) > v.2.2.2.2.2)) then (let x30:Y1:=(([]:Y6),((0:Int),()));(some (x30,(0:Int),(4:Int)))) else (some (x7,(bits .or .u64 v.1 x29),(0:Int)))) else (let x31:Int:=(IntKind.i64.wrap (v.2.1+(1:Int)));(self0 ((bits .or .u64 v.1 x29),x31,x7,v.2.2.2.1,v.2.2.2.2.1,v.2.2.2.2.2))))))))))))))) else (let x32:Y1:=(([]:Y6),((0:Int),()));(some (x32,(0:Int),(12:Int)))))
def gwire_Unvary_0 (N:Nat) (self0:Int×Int×Y1×Y20×Y6×Int→Option Y16) (v:Int×Int×Y1×Y20×Y6×Int):Option Y16:=hwire_Unvary_0 self0 v
theorem kz5_0 (N:Nat) (s0:St→Option Y16) (v):(floc (Ez5) Tz5 6 N Tryz.f116 [Z2,Z14,Z3] [false,false,false] [.call 3 1 139] 0 nowhereR) s0 (ez5_0 v)=hwire_Unvary_0 (fun v=>s0 (ez5_0 v)) v:=by kernel_rfl
theorem bz5_0 (N:Nat) (s0:St→Option Y16) (v):(floc (Ez5) Tz5 6 N Tryz.f116 [Z2,Z14,Z3] [false,false,false] [.call 3 1 139] 0 nowhereR) s0 (ez5_0 v)=gwire_Unvary_0 N (fun v=>s0 (ez5_0 v)) v:=kz5_0 N s0 v
def nwire_Unvary (loop0:Int×Int×Y1×Y20×Y6×Int→Option Y16) (x:Y1×Int):Option Y16:=
 ((cwire_valid x.1).bind fun x1=>(bif (!x1) then (let x2:Y1:=(([]:Y6),((0:Int),()));(some (x2,(0:Int),(8:Int)))) else (loop0 ((0:Int),(0:Int),x.1,((0:Int),()),([]:List Int),x.2))))
def mwire_Unvary (N:Nat) (x:Y1×Int):Option Y16:=nwire_Unvary (iterV (gwire_Unvary_0 N) N) x
theorem jz5 (N:Nat) (x:Y1×Int):rise (Ez5) Tz5 6 N Tryz.f116 [Z2,Z14] [Z2,Z14,Z3] [false,false,false] x=nwire_Unvary (fun v=>iterR (floc (Ez5) Tz5 6 N Tryz.f116 [Z2,Z14,Z3] [false,false,false] [.call 3 1 139] 0 nowhereR) N (ez5_0 v)) x:=by kernel_rfl
theorem lz5 (N:Nat) (x:Y1×Int):rise (Ez5) Tz5 6 N Tryz.f116 [Z2,Z14] [Z2,Z14,Z3] [false,false,false] x=mwire_Unvary N x:=(jz5 N x).trans (by rw [funext (iterR_eq ez5_0 (bz5_0 N) N)];rfl)
def cwire_Unvary (x:Y1×Int):Option Y16:=mwire_Unvary big x
def Gz5:Fn2:=⟨[Z2,Z14],[Z2,Z14,Z3],[false,false,false],fun x=>cwire_Unvary x⟩
theorem Lz5:Rises Tryz.prog 116 Gz5:=rises_of (E:=Ez5) ⟨tabOk,(fsCons2 Lz0 (fsCons2 Lz1 fsNil2)),fun _ _ _=>rfl,mixed,(inlCons (inlB_of Tryz.func139 rfl rfl (by kernel_rfl)) (inlCons (inlB_of Tryz.func140 rfl rfl (by kernel_rfl)) (inlCons (inlB_of Tryz.func160 rfl rfl (by kernel_rfl)) inlNil))),rcsNil,owsNil⟩ Tryz.func116 rfl (by decide) (by kernel_rfl) (by kernel_rfl) (by kernel_rfl) (by kernel_rfl) (fun x r _ h=>⟨Tz5,6,big,(lz5 big x).trans h⟩)
def Tz6:LT:={ live:=[],keep:=[] }
def Tz7:LT:={ live:=[],keep:=[(22,[6])] }
def Tz8:LT:={ live:=[(3,[0,2,7,14,15])],keep:=[] }
def Tz9:LT:={ live:=[],keep:=[] }
noncomputable def Ez9:Env2:={ tab:=tab,fs:=[],inl:=[] }
def nwire_isWidth (x:Int):Option (Bool):=
 (bif (x==(1:Int)) then (some true) else (bif (x==(2:Int)) then (some true) else (bif (x==(4:Int)) then (some true) else (some (x==(8:Int))))))
def mwire_isWidth (N:Nat) (x:Int):Option (Bool):=nwire_isWidth x
theorem jz9 (N:Nat) (x:Int):rise (Ez9) Tz9 6 N Tryz.f141 [Z3] [.bool] [false] x=nwire_isWidth x:=by kernel_rfl
theorem lz9 (N:Nat) (x:Int):rise (Ez9) Tz9 6 N Tryz.f141 [Z3] [.bool] [false] x=mwire_isWidth N x:=(jz9 N x).trans rfl
def cwire_isWidth (x:Int):Option (Bool):=mwire_isWidth big x
def Gz9:Fn2:=⟨[Z3],[.bool],[false],fun x=>cwire_isWidth x⟩
theorem Lz9:Rises Tryz.prog 141 Gz9:=rises_of (E:=Ez9) ⟨tabOk,fsNil2,fun _ _ _=>rfl,mixed,inlNil,rcsNil,owsNil⟩ Tryz.func141 rfl (by decide) (by kernel_rfl) (by kernel_rfl) (by kernel_rfl) (by kernel_rfl) (fun x r _ h=>⟨Tz9,6,big,(lz9 big x).trans h⟩)
def Tz10:LT:={ live:=[(9,[1,2,4,7,22,23])],keep:=[] }
noncomputable def Ez10:Env2:={ tab:=tab,fs:=[(138,Gz0),(141,Gz9),(142,Gz1)],inl:=[] }
noncomputable def ez10_0 (v:Int×Int×Int×Int×Y1×Y20×Y6):St:={ s:=[(1,(.val ⟨Z3,v.1⟩)),(2,(.loc 0 [])),(4,(.loc 1 [])),(7,(.val ⟨Z14,v.2.1⟩)),(22,(.val ⟨Z3,v.2.2.1⟩)),(23,(.val ⟨Z3,v.2.2.2.1⟩))],l:=[(0,.var Z2 (.val ⟨Z2,v.2.2.2.2.1⟩)),(1,.var Z2 (.pair (.row 2) (.val ⟨(.pair Z3 .unit),v.2.2.2.2.2.1⟩))),(2,.row Z13 v.2.2.2.2.2.2)],k:=[],b:=4096 }
def hwire_Unfixed_0 (self0:Int×Int×Int×Int×Y1×Y20×Y6→Option Y16) (v:Int×Int×Int×Int×Y1×Y20×Y6):Option Y16:=
 (bif (decide (v.2.2.2.1 < v.2.2.1)) then (let x7:Int:=(IntKind.i64.wrap (v.2.2.2.2.1.2.1+v.2.2.2.1));((getI v.2.2.2.2.1.1 x7).bind fun x8=>(let x9:Int:=(IntKind.i64.wrap ((8:Int) * v.2.2.2.1));(bif (decide (x9 < 0)) then none else (let x10:Int:=(IntKind.u64.wrap ((IntKind.u64.wrap x8) * 2 ^ (min (Int.toNat x9) 64)));(let x11:Int:=(bits .or .u64 v.2.1 x10);(let x12:Int:=(IntKind.i64.wrap (v.2.2.2.1+(1:Int)));(self0 (v.1,x11,v.2.2.1,x12,v.2.2.2.2.1,v.2.2.2.2.2.1,v.2.2.2.2.2.2))))))))) else (let x13:Int:=(IntKind.i64.wrap (v.2.2.2.2.1.2.1+v.1));(let x14:Y1:=(v.2.2.2.2.1.1,(x13,v.2.2.2.2.1.2.2));(some (x14,v.2.1,(0:Int))))))
def gwire_Unfixed_0 (N:Nat) (self0:Int×Int×Int×Int×Y1×Y20×Y6→Option Y16) (v:Int×Int×Int×Int×Y1×Y20×Y6):Option Y16:=hwire_Unfixed_0 self0 v
theorem kz10_0 (N:Nat) (s0:St→Option Y16) (v):(floc (Ez10) Tz10 6 N Tryz.f118 [Z2,Z14,Z3] [false,false,false] [] 0 nowhereR) s0 (ez10_0 v)=hwire_Unfixed_0 (fun v=>s0 (ez10_0 v)) v:=by kernel_rfl
theorem bz10_0 (N:Nat) (s0:St→Option Y16) (v):(floc (Ez10) Tz10 6 N Tryz.f118 [Z2,Z14,Z3] [false,false,false] [] 0 nowhereR) s0 (ez10_0 v)=gwire_Unfixed_0 N (fun v=>s0 (ez10_0 v)) v:=kz10_0 N s0 v
def nwire_Unfixed (loop0:Int×Int×Int×Int×Y1×Y20×Y6→Option Y16) (x:Y1×Int):Option Y16:=
 ((cwire_valid x.1).bind fun x1=>(bif (!x1) then (let x2:Y1:=(([]:Y6),((0:Int),()));(some (x2,(0:Int),(8:Int)))) else ((cwire_isWidth x.2).bind fun x3=>(bif (!x3) then (let x4:Y1:=(([]:Y6),((0:Int),()));(some (x4,(0:Int),(2:Int)))) else ((cwire_left x.1).bind fun x5=>(bif (decide (x5 < x.2)) then (let x6:Y1:=(([]:Y6),((0:Int),()));(some (x6,(0:Int),(24:Int)))) else (loop0 (x.2,(0:Int),x.2,(0:Int),x.1,((0:Int),()),([]:List Int)))))))))
def mwire_Unfixed (N:Nat) (x:Y1×Int):Option Y16:=nwire_Unfixed (iterV (gwire_Unfixed_0 N) N) x
theorem jz10 (N:Nat) (x:Y1×Int):rise (Ez10) Tz10 6 N Tryz.f118 [Z2,Z3] [Z2,Z14,Z3] [false,false,false] x=nwire_Unfixed (fun v=>iterR (floc (Ez10) Tz10 6 N Tryz.f118 [Z2,Z14,Z3] [false,false,false] [] 0 nowhereR) N (ez10_0 v)) x:=by kernel_rfl
theorem lz10 (N:Nat) (x:Y1×Int):rise (Ez10) Tz10 6 N Tryz.f118 [Z2,Z3] [Z2,Z14,Z3] [false,false,false] x=mwire_Unfixed N x:=(jz10 N x).trans (by rw [funext (iterR_eq ez10_0 (bz10_0 N) N)];rfl)
def cwire_Unfixed (x:Y1×Int):Option Y16:=mwire_Unfixed big x
def Gz10:Fn2:=⟨[Z2,Z3],[Z2,Z14,Z3],[false,false,false],fun x=>cwire_Unfixed x⟩
theorem Lz10:Rises Tryz.prog 118 Gz10:=rises_of (E:=Ez10) ⟨tabOk,(fsCons2 Lz0 (fsCons2 Lz9 (fsCons2 Lz1 fsNil2))),fun _ _ _=>rfl,mixed,inlNil,rcsNil,owsNil⟩ Tryz.func118 rfl (by decide) (by kernel_rfl) (by kernel_rfl) (by kernel_rfl) (by kernel_rfl) (fun x r _ h=>⟨Tz10,6,big,(lz10 big x).trans h⟩)
def Tz11:LT:={ live:=[],keep:=[(18,[4])] }
def Tz12:LT:={ live:=[(3,[0,2,7,14,15])],keep:=[] }
def Tz13:LT:={ live:=[],keep:=[] }
noncomputable def Ez13:Env2:={ tab:=tab,fs:=[(116,Gz5),(138,Gz0),(142,Gz1)],inl:=[] }
def nwire_Untext (x:Y1×Int):Option (Y1×Y6×Int):=
 ((cwire_valid x.1).bind fun x1=>(bif (!x1) then (let x2:Y1:=(([]:Y6),((0:Int),()));(some (x2,([]:List Int),(8:Int)))) else (bif (decide (x.2 < (0:Int))) then (let x3:Y1:=(([]:Y6),((0:Int),()));(some (x3,([]:List Int),(2:Int)))) else (bif (decide (x.2 > (200000:Int))) then (let x4:Y1:=(([]:Y6),((0:Int),()));(some (x4,([]:List Int),(2:Int)))) else ((cwire_Unvary (x.1,(IntKind.u64.wrap x.2))).bind fun x5=>(bif (x5.2.2 != (0:Int)) then (let x6:Y1:=(([]:Y6),((0:Int),()));(some (x6,([]:List Int),x5.2.2))) else ((cwire_left x5.1).bind fun x7=>(let x8:Int:=(IntKind.i64.wrap x5.2.1);(bif (decide (x7 < x8)) then (let x9:Y1:=(([]:Y6),((0:Int),()));(some (x9,([]:List Int),(24:Int)))) else (let x10:Int:=(IntKind.i64.wrap x5.2.1);(let x11:Int:=(IntKind.i64.wrap (x5.1.2.1+x10));(let x12:Y1:=(x5.1.1,(x11,x5.1.2.2));(bif (decide (0≤x5.1.2.1)&&(decide (x5.1.2.1≤x12.2.1)&&decide (x12.2.1≤(List.length x12.1:Int)))) then (let x13:Y6:=(List.drop (Int.toNat x5.1.2.1) (List.take (Int.toNat x12.2.1) x12.1));(some (x12,x13,(0:Int)))) else none)))))))))))))
def mwire_Untext (N:Nat) (x:Y1×Int):Option (Y1×Y6×Int):=nwire_Untext x
theorem jz13 (N:Nat) (x:Y1×Int):rise (Ez13) Tz13 6 N Tryz.f119 [Z2,Z3] [Z2,.str,Z3] [false,false,false] x=nwire_Untext x:=by kernel_rfl
theorem lz13 (N:Nat) (x:Y1×Int):rise (Ez13) Tz13 6 N Tryz.f119 [Z2,Z3] [Z2,.str,Z3] [false,false,false] x=mwire_Untext N x:=(jz13 N x).trans rfl
def cwire_Untext (x:Y1×Int):Option (Y1×Y6×Int):=mwire_Untext big x
def Gz13:Fn2:=⟨[Z2,Z3],[Z2,.str,Z3],[false,false,false],fun x=>cwire_Untext x⟩
theorem Lz13:Rises Tryz.prog 119 Gz13:=rises_of (E:=Ez13) ⟨tabOk,(fsCons2 Lz5 (fsCons2 Lz0 (fsCons2 Lz1 fsNil2))),fun _ _ _=>rfl,mixed,inlNil,rcsNil,owsNil⟩ Tryz.func119 rfl (by decide) (by kernel_rfl) (by kernel_rfl) (by kernel_rfl) (by kernel_rfl) (fun x r _ h=>⟨Tz13,6,big,(lz13 big x).trans h⟩)
def Tz14:LT:={ live:=[],keep:=[(21,[6])] }
def Tz15:LT:={ live:=[],keep:=[] }
def Tz16:LT:={ live:=[],keep:=[] }
def Tz17:LT:={ live:=[],keep:=[(26,[2,3])] }
def Tz18:LT:={ live:=[(3,[0,2,7,14,15])],keep:=[] }
def Tz19:LT:={ live:=[],keep:=[] }
def Tz20:LT:={ live:=[(3,[0,2,7,14,15])],keep:=[] }
def Tz21:LT:={ live:=[],keep:=[] }
noncomputable def Ez21:Env2:={ tab:=tab,fs:=[(116,Gz5)],inl:=[] }
def nwire_Unsigned (x:Y1):Option Y16:=
 ((cwire_Unvary (x,(18446744073709551615:Int))).bind fun x1=>(bif (x1.2.2 != (0:Int)) then (let x2:Y1:=(([]:Y6),((0:Int),()));(some (x2,(0:Int),x1.2.2))) else (let x3:Int:=(IntKind.i64.wrap (x1.2.1.fdiv (2 ^ 1)));(let x4:Int:=(bits .and .u64 x1.2.1 (1:Int));(bif (x4==(1:Int)) then (let x5:Int:=(bits .xor .i64 (if IntKind.signed .i64 then -1 else IntKind.max .i64) x3);(some (x1.1,x5,(0:Int)))) else (some (x1.1,x3,(0:Int))))))))
def mwire_Unsigned (N:Nat) (x:Y1):Option Y16:=nwire_Unsigned x
theorem jz21 (N:Nat) (x:Y1):rise (Ez21) Tz21 6 N Tryz.f120 [Z2] [Z2,Z3,Z3] [false,false,false] x=nwire_Unsigned x:=by kernel_rfl
theorem lz21 (N:Nat) (x:Y1):rise (Ez21) Tz21 6 N Tryz.f120 [Z2] [Z2,Z3,Z3] [false,false,false] x=mwire_Unsigned N x:=(jz21 N x).trans rfl
def cwire_Unsigned (x:Y1):Option Y16:=mwire_Unsigned big x
def Gz21:Fn2:=⟨[Z2],[Z2,Z3,Z3],[false,false,false],fun x=>cwire_Unsigned x⟩
theorem Lz21:Rises Tryz.prog 120 Gz21:=rises_of (E:=Ez21) ⟨tabOk,(fsCons2 Lz5 fsNil2),fun _ _ _=>rfl,mixed,inlNil,rcsNil,owsNil⟩ Tryz.func120 rfl (by decide) (by kernel_rfl) (by kernel_rfl) (by kernel_rfl) (by kernel_rfl) (fun x r _ h=>⟨Tz21,6,big,(lz21 big x).trans h⟩)
def Tz22:LT:={ live:=[],keep:=[(18,[4])] }
def Tz23:LT:={ live:=[(3,[0,2,7,14,15])],keep:=[] }
def Tz24:LT:={ live:=[],keep:=[] }
noncomputable def Ez24:Env2:={ tab:=tab,fs:=[],inl:=[] }
def nops_isOperation (x:Int):Option (Bool):=
 (bif (decide (x≥(1:Int))) then (some (decide (x≤(34:Int)))) else (some false))
def mops_isOperation (N:Nat) (x:Int):Option (Bool):=nops_isOperation x
theorem jz24 (N:Nat) (x:Int):rise (Ez24) Tz24 6 N Tryz.f143 [Z13] [.bool] [false] x=nops_isOperation x:=by kernel_rfl
theorem lz24 (N:Nat) (x:Int):rise (Ez24) Tz24 6 N Tryz.f143 [Z13] [.bool] [false] x=mops_isOperation N x:=(jz24 N x).trans rfl
def cops_isOperation (x:Int):Option (Bool):=mops_isOperation big x
def Gz24:Fn2:=⟨[Z13],[.bool],[false],fun x=>cops_isOperation x⟩
theorem Lz24:Rises Tryz.prog 143 Gz24:=rises_of (E:=Ez24) ⟨tabOk,fsNil2,fun _ _ _=>rfl,mixed,inlNil,rcsNil,owsNil⟩ Tryz.func143 rfl (by decide) (by kernel_rfl) (by kernel_rfl) (by kernel_rfl) (by kernel_rfl) (fun x r _ h=>⟨Tz24,6,big,(lz24 big x).trans h⟩)
def Tz25:LT:={ live:=[],keep:=[] }
noncomputable def Ez25:Env2:={ tab:=tab,fs:=[],inl:=[] }
def nops_isSigned (x:Int):Option (Bool):=
 (bif (x==(5:Int)) then (some true) else (bif (x==(3:Int)) then (some true) else (some (x==(4:Int)))))
def mops_isSigned (N:Nat) (x:Int):Option (Bool):=nops_isSigned x
theorem jz25 (N:Nat) (x:Int):rise (Ez25) Tz25 6 N Tryz.f159 [Z13] [.bool] [false] x=nops_isSigned x:=by kernel_rfl
theorem lz25 (N:Nat) (x:Int):rise (Ez25) Tz25 6 N Tryz.f159 [Z13] [.bool] [false] x=mops_isSigned N x:=(jz25 N x).trans rfl
def cops_isSigned (x:Int):Option (Bool):=mops_isSigned big x
def Gz25:Fn2:=⟨[Z13],[.bool],[false],fun x=>cops_isSigned x⟩
theorem Lz25:Rises Tryz.prog 159 Gz25:=rises_of (E:=Ez25) ⟨tabOk,fsNil2,fun _ _ _=>rfl,mixed,inlNil,rcsNil,owsNil⟩ Tryz.func159 rfl (by decide) (by kernel_rfl) (by kernel_rfl) (by kernel_rfl) (by kernel_rfl) (fun x r _ h=>⟨Tz25,6,big,(lz25 big x).trans h⟩)
def Tz26:LT:={ live:=[],keep:=[] }
noncomputable def Ez26:Env2:={ tab:=tab,fs:=[(116,Gz5),(120,Gz21),(159,Gz25)],inl:=[] }
def nops_readOperand (x:Y1×Int):Option Y16:=
 ((cops_isSigned x.2).bind fun x1=>(bif x1 then ((cwire_Unsigned x.1).bind fun x2=>(some (x2.1,x2.2.1,x2.2.2))) else ((cwire_Unvary (x.1,(18446744073709551615:Int))).bind fun x3=>(let x4:Int:=(if (9223372036854775807:Int) < x3.2.1 then (9223372036854775807:Int) else x3.2.1);(some (x3.1,(IntKind.i64.wrap x4),x3.2.2))))))
def mops_readOperand (N:Nat) (x:Y1×Int):Option Y16:=nops_readOperand x
theorem jz26 (N:Nat) (x:Y1×Int):rise (Ez26) Tz26 6 N Tryz.f144 [Z2,Z13] [Z2,Z3,Z3] [false,false,false] x=nops_readOperand x:=by kernel_rfl
theorem lz26 (N:Nat) (x:Y1×Int):rise (Ez26) Tz26 6 N Tryz.f144 [Z2,Z13] [Z2,Z3,Z3] [false,false,false] x=mops_readOperand N x:=(jz26 N x).trans rfl
def cops_readOperand (x:Y1×Int):Option Y16:=mops_readOperand big x
def Gz26:Fn2:=⟨[Z2,Z13],[Z2,Z3,Z3],[false,false,false],fun x=>cops_readOperand x⟩
theorem Lz26:Rises Tryz.prog 144 Gz26:=rises_of (E:=Ez26) ⟨tabOk,(fsCons2 Lz5 (fsCons2 Lz21 (fsCons2 Lz25 fsNil2))),fun _ _ _=>rfl,mixed,inlNil,rcsNil,owsNil⟩ Tryz.func144 rfl (by decide) (by kernel_rfl) (by kernel_rfl) (by kernel_rfl) (by kernel_rfl) (fun x r _ h=>⟨Tz26,6,big,(lz26 big x).trans h⟩)
def Tz27:LT:={ live:=[],keep:=[] }
noncomputable def Ez27:Env2:={ tab:=tab,fs:=[],inl:=[] }
def nops_operands (x:Y8):Option (Y6):=
 (let x1:Y6:=[x.2.1,x.2.2.1,x.2.2.2.1];(some x1))
def mops_operands (N:Nat) (x:Y8):Option (Y6):=nops_operands x
theorem jz27 (N:Nat) (x:Y8):rise (Ez27) Tz27 6 N Tryz.f161 [Z5] [(.arr 3 Z3)] [false] x=nops_operands x:=by kernel_rfl
theorem lz27 (N:Nat) (x:Y8):rise (Ez27) Tz27 6 N Tryz.f161 [Z5] [(.arr 3 Z3)] [false] x=mops_operands N x:=(jz27 N x).trans rfl
def cops_operands (x:Y8):Option (Y6):=mops_operands big x
def Gz27:Fn2:=⟨[Z5],[(.arr 3 Z3)],[false],fun x=>cops_operands x⟩
theorem Lz27:Rises Tryz.prog 161 Gz27:=rises_of (E:=Ez27) ⟨tabOk,fsNil2,fun _ _ _=>rfl,mixed,inlNil,rcsNil,owsNil⟩ Tryz.func161 rfl (by decide) (by kernel_rfl) (by kernel_rfl) (by kernel_rfl) (by kernel_rfl) (fun x r _ h=>⟨Tz27,6,big,(lz27 big x).trans h⟩)
def Tz28:LT:={ live:=[],keep:=[] }
noncomputable def Ez28:Env2:={ tab:=tab,fs:=[],inl:=[] }
def nops_isIndex (x:Int×Int):Option (Bool):=
 (bif (decide (x.1≥(0:Int))) then (some (decide (x.1 < x.2))) else (some false))
def mops_isIndex (N:Nat) (x:Int×Int):Option (Bool):=nops_isIndex x
theorem jz28 (N:Nat) (x:Int×Int):rise (Ez28) Tz28 6 N Tryz.f167 [Z3,Z3] [.bool] [false] x=nops_isIndex x:=by kernel_rfl
theorem lz28 (N:Nat) (x:Int×Int):rise (Ez28) Tz28 6 N Tryz.f167 [Z3,Z3] [.bool] [false] x=mops_isIndex N x:=(jz28 N x).trans rfl
def cops_isIndex (x:Int×Int):Option (Bool):=mops_isIndex big x
def Gz28:Fn2:=⟨[Z3,Z3],[.bool],[false],fun x=>cops_isIndex x⟩
theorem Lz28:Rises Tryz.prog 167 Gz28:=rises_of (E:=Ez28) ⟨tabOk,fsNil2,fun _ _ _=>rfl,mixed,inlNil,rcsNil,owsNil⟩ Tryz.func167 rfl (by decide) (by kernel_rfl) (by kernel_rfl) (by kernel_rfl) (by kernel_rfl) (fun x r _ h=>⟨Tz28,6,big,(lz28 big x).trans h⟩)
def Tz29:LT:={ live:=[],keep:=[] }
noncomputable def Ez29:Env2:={ tab:=tab,fs:=[(167,Gz28)],inl:=[] }
def nops_fits (x:Int×Int):Option (Bool):=
 (bif (x.1==(5:Int)) then (some true) else (bif (x.1==(3:Int)) then (bif (x.1==(3:Int)) then (bif (x.2==(-1:Int)) then (some true) else ((cops_isIndex (x.2,(16:Int))).bind fun x1=>(some x1))) else (bif (x.1==(1:Int)) then (bif (x.1==(1:Int)) then ((cops_isIndex (x.2,(16:Int))).bind fun x2=>(some x2)) else (bif (x.1==(6:Int)) then ((cops_isIndex (x.2,(2:Int))).bind fun x3=>(some x3)) else (bif (x.1==(7:Int)) then ((cops_isIndex (x.2,(32:Int))).bind fun x4=>(some x4)) else (bif (x.1==(8:Int)) then ((cops_isIndex (x.2,(8:Int))).bind fun x5=>(some x5)) else (bif (x.1==(9:Int)) then ((cops_isIndex (x.2,(32:Int))).bind fun x6=>(some x6)) else (bif (x.1==(10:Int)) then ((cops_isIndex (x.2,(200:Int))).bind fun x7=>(some x7)) else (some (x.2==(0:Int))))))))) else (bif (x.1==(2:Int)) then ((cops_isIndex (x.2,(16:Int))).bind fun x8=>(some x8)) else (bif (x.1==(6:Int)) then ((cops_isIndex (x.2,(2:Int))).bind fun x9=>(some x9)) else (bif (x.1==(7:Int)) then ((cops_isIndex (x.2,(32:Int))).bind fun x10=>(some x10)) else (bif (x.1==(8:Int)) then ((cops_isIndex (x.2,(8:Int))).bind fun x11=>(some x11)) else (bif (x.1==(9:Int)) then ((cops_isIndex (x.2,(32:Int))).bind fun x12=>(some x12)) else (bif (x.1==(10:Int)) then ((cops_isIndex (x.2,(200:Int))).bind fun x13=>(some x13)) else (some (x.2==(0:Int))))))))))) else (bif (x.1==(4:Int)) then (bif (x.2==(-1:Int)) then (some true) else ((cops_isIndex (x.2,(16:Int))).bind fun x14=>(some x14))) else (bif (x.1==(1:Int)) then (bif (x.1==(1:Int)) then ((cops_isIndex (x.2,(16:Int))).bind fun x15=>(some x15)) else (bif (x.1==(6:Int)) then ((cops_isIndex (x.2,(2:Int))).bind fun x16=>(some x16)) else (bif (x.1==(7:Int)) then ((cops_isIndex (x.2,(32:Int))).bind fun x17=>(some x17)) else (bif (x.1==(8:Int)) then ((cops_isIndex (x.2,(8:Int))).bind fun x18=>(some x18)) else (bif (x.1==(9:Int)) then ((cops_isIndex (x.2,(32:Int))).bind fun x19=>(some x19)) else (bif (x.1==(10:Int)) then ((cops_isIndex (x.2,(200:Int))).bind fun x20=>(some x20)) else (some (x.2==(0:Int))))))))) else (bif (x.1==(2:Int)) then ((cops_isIndex (x.2,(16:Int))).bind fun x21=>(some x21)) else (bif (x.1==(6:Int)) then ((cops_isIndex (x.2,(2:Int))).bind fun x22=>(some x22)) else (bif (x.1==(7:Int)) then ((cops_isIndex (x.2,(32:Int))).bind fun x23=>(some x23)) else (bif (x.1==(8:Int)) then ((cops_isIndex (x.2,(8:Int))).bind fun x24=>(some x24)) else (bif (x.1==(9:Int)) then ((cops_isIndex (x.2,(32:Int))).bind fun x25=>(some x25)) else (bif (x.1==(10:Int)) then ((cops_isIndex (x.2,(200:Int))).bind fun x26=>(some x26)) else (some (x.2==(0:Int)))))))))))))
def mops_fits (N:Nat) (x:Int×Int):Option (Bool):=nops_fits x
theorem jz29 (N:Nat) (x:Int×Int):rise (Ez29) Tz29 6 N Tryz.f162 [Z13,Z3] [.bool] [false] x=nops_fits x:=by kernel_rfl
theorem lz29 (N:Nat) (x:Int×Int):rise (Ez29) Tz29 6 N Tryz.f162 [Z13,Z3] [.bool] [false] x=mops_fits N x:=(jz29 N x).trans rfl
def cops_fits (x:Int×Int):Option (Bool):=mops_fits big x
def Gz29:Fn2:=⟨[Z13,Z3],[.bool],[false],fun x=>cops_fits x⟩
theorem Lz29:Rises Tryz.prog 162 Gz29:=rises_of (E:=Ez29) ⟨tabOk,(fsCons2 Lz28 fsNil2),fun _ _ _=>rfl,mixed,inlNil,rcsNil,owsNil⟩ Tryz.func162 rfl (by decide) (by kernel_rfl) (by kernel_rfl) (by kernel_rfl) (by kernel_rfl) (fun x r _ h=>⟨Tz29,6,big,(lz29 big x).trans h⟩)
def Tz30:LT:={ live:=[(5,[3,16,17])],keep:=[] }
noncomputable def Ez30:Env2:={ tab:=tab,fs:=[(143,Gz24),(161,Gz27),(162,Gz29)],inl:=[] }
noncomputable def ez30_0 (v:Y6×Int×Y6):St:={ s:=[(3,(.loc 0 [])),(16,(.val ⟨(.arr 3 Z13),v.1⟩)),(17,(.val ⟨Z3,v.2.1⟩))],l:=[(0,.var (.arr 3 Z3) (.val ⟨(.arr 3 Z3),v.2.2⟩))],k:=[],b:=4096 }
def hops_Check_0 (self0:Y6×Int×Y6→Option (Int)) (v:Y6×Int×Y6):Option (Int):=
 (bif (decide (v.2.1 < (3:Int))) then ((getI v.1 v.2.1).bind fun x4=>(bif (decide (0≤v.2.1)&&decide (v.2.1 < (3:Int))) then ((nth v.2.2 (Int.toNat v.2.1)).bind fun x5=>((cops_fits (x4,x5)).bind fun x6=>(bif (!x6) then (some (8:Int)) else (let x7:Int:=(IntKind.i64.wrap (v.2.1+(1:Int)));(self0 (v.1,x7,v.2.2)))))) else none)) else (some (0:Int)))
def gops_Check_0 (N:Nat) (self0:Y6×Int×Y6→Option (Int)) (v:Y6×Int×Y6):Option (Int):=hops_Check_0 self0 v
theorem kz30_0 (N:Nat) (s0:St→Option (Int)) (v):(floc (Ez30) Tz30 6 N Tryz.f145 [Z3] [false] [] 0 nowhereR) s0 (ez30_0 v)=hops_Check_0 (fun v=>s0 (ez30_0 v)) v:=by kernel_rfl
theorem bz30_0 (N:Nat) (s0:St→Option (Int)) (v):(floc (Ez30) Tz30 6 N Tryz.f145 [Z3] [false] [] 0 nowhereR) s0 (ez30_0 v)=gops_Check_0 N (fun v=>s0 (ez30_0 v)) v:=kz30_0 N s0 v
def nops_Check (loop0:Y6×Int×Y6→Option (Int)) (x:Y8):Option (Int):=
 ((cops_isOperation x.1).bind fun x1=>(bif (!x1) then (some (8:Int)) else ((cops_operands x).bind fun x2=>((getI gl0 x.1).bind fun x3=>(loop0 (x3.2.1,(0:Int),x2))))))
def mops_Check (N:Nat) (x:Y8):Option (Int):=nops_Check (iterV (gops_Check_0 N) N) x
theorem jz30 (N:Nat) (x:Y8):rise (Ez30) Tz30 6 N Tryz.f145 [Z5] [Z3] [false] x=nops_Check (fun v=>iterR (floc (Ez30) Tz30 6 N Tryz.f145 [Z3] [false] [] 0 nowhereR) N (ez30_0 v)) x:=by kernel_rfl
theorem lz30 (N:Nat) (x:Y8):rise (Ez30) Tz30 6 N Tryz.f145 [Z5] [Z3] [false] x=mops_Check N x:=(jz30 N x).trans (by rw [funext (iterR_eq ez30_0 (bz30_0 N) N)];rfl)
def cops_Check (x:Y8):Option (Int):=mops_Check big x
def Gz30:Fn2:=⟨[Z5],[Z3],[false],fun x=>cops_Check x⟩
theorem Lz30:Rises Tryz.prog 145 Gz30:=rises_of (E:=Ez30) ⟨tabOk,(fsCons2 Lz24 (fsCons2 Lz27 (fsCons2 Lz29 fsNil2))),fun _ _ _=>rfl,mixed,inlNil,rcsNil,owsNil⟩ Tryz.func145 rfl (by decide) (by kernel_rfl) (by kernel_rfl) (by kernel_rfl) (by kernel_rfl) (fun x r _ h=>⟨Tz30,6,big,(lz30 big x).trans h⟩)
def Tz31:LT:={ live:=[(9,[1,2,3,7,8,33,34])],keep:=[] }
noncomputable def Ez31:Env2:={ tab:=tab,fs:=[(118,Gz10),(143,Gz24),(144,Gz26),(145,Gz30)],inl:=[] }
noncomputable def ez31_0 (v:Int×Y6×Int×Y1×Y20×Y6×Y8×Y6):St:={ s:=[(1,(.loc 0 [])),(2,(.loc 1 [])),(3,(.loc 3 [])),(7,(.val ⟨Z13,v.1⟩)),(8,(.loc 4 [])),(33,(.val ⟨(.arr 3 Z13),v.2.1⟩)),(34,(.val ⟨Z3,v.2.2.1⟩))],l:=[(0,.var Z2 (.val ⟨Z2,v.2.2.2.1⟩)),(1,.var Z2 (.pair (.row 2) (.val ⟨(.pair Z3 .unit),v.2.2.2.2.1⟩))),(2,.row Z13 v.2.2.2.2.2.1),(3,.var Z5 (.val ⟨Z5,v.2.2.2.2.2.2.1⟩)),(4,.var (.arr 3 Z3) (.val ⟨(.arr 3 Z3),v.2.2.2.2.2.2.2⟩))],k:=[],b:=4096 }
def hops_Decode_0 (self0:Int×Y6×Int×Y1×Y20×Y6×Y8×Y6→Option (Y1×Y8×Int)) (v:Int×Y6×Int×Y1×Y20×Y6×Y8×Y6):Option (Y1×Y8×Int):=
 (bif (decide (v.2.2.1 < (3:Int))) then ((getI v.2.1 v.2.2.1).bind fun x8=>(bif (x8==(0:Int)) then (let x9:Int:=(IntKind.i64.wrap (v.2.2.1+(1:Int)));(self0 (v.1,v.2.1,x9,v.2.2.2.1,v.2.2.2.2.1,v.2.2.2.2.2.1,v.2.2.2.2.2.2.1,v.2.2.2.2.2.2.2))) else ((cops_readOperand (v.2.2.2.1,x8)).bind fun x10=>(bif (decide (0≤v.2.2.1)&&decide (v.2.2.1 < (3:Int))) then (let x11:Y6:=(List.set v.2.2.2.2.2.2.2 (Int.toNat v.2.2.1) x10.2.1);(bif (x10.2.2 != (0:Int)) then (let x12:Y1:=(([]:Y6),((0:Int),()));(let x13:Y8:=((0:Int),((0:Int),((0:Int),((0:Int),()))));(some (x12,x13,x10.2.2)))) else (let x14:Int:=(IntKind.i64.wrap (v.2.2.1+(1:Int)));(self0 (v.1,v.2.1,x14,x10.1,v.2.2.2.2.1,v.2.2.2.2.2.1,v.2.2.2.2.2.2.1,x11))))) else none)))) else (bif (decide (0≤(0:Int))&&decide ((0:Int) < (3:Int))) then ((nth v.2.2.2.2.2.2.2 (Int.toNat (0:Int))).bind fun x15=>(bif (decide (0≤(1:Int))&&decide ((1:Int) < (3:Int))) then ((nth v.2.2.2.2.2.2.2 (Int.toNat (1:Int))).bind fun x16=>(bif (decide (0≤(2:Int))&&decide ((2:Int) < (3:Int))) then ((nth v.2.2.2.2.2.2.2 (Int.toNat (2:Int))).bind fun x17=>(let x18:Y8:=(v.1,(x15,(x16,(x17,()))));((cops_Check x18).bind fun x19=>(bif (x19 != (0:Int)) then (let x20:Y1:=(([]:Y6),((0:Int),()));(let x21:Y8:=((0:Int),((0:Int),((0:Int),((0:Int),()))));(some (x20,x21,(12:Int))))) else (some (v.2.2.2.1,x18,(0:Int))))))) else none)) else none)) else none))
def gops_Decode_0 (N:Nat) (self0:Int×Y6×Int×Y1×Y20×Y6×Y8×Y6→Option (Y1×Y8×Int)) (v:Int×Y6×Int×Y1×Y20×Y6×Y8×Y6):Option (Y1×Y8×Int):=hops_Decode_0 self0 v
theorem kz31_0 (N:Nat) (s0:St→Option (Y1×Y8×Int)) (v):(floc (Ez31) Tz31 6 N Tryz.f121 [Z2,Z5,Z3] [false,false,false] [] 0 nowhereR) s0 (ez31_0 v)=hops_Decode_0 (fun v=>s0 (ez31_0 v)) v:=by kernel_rfl
theorem bz31_0 (N:Nat) (s0:St→Option (Y1×Y8×Int)) (v):(floc (Ez31) Tz31 6 N Tryz.f121 [Z2,Z5,Z3] [false,false,false] [] 0 nowhereR) s0 (ez31_0 v)=gops_Decode_0 N (fun v=>s0 (ez31_0 v)) v:=kz31_0 N s0 v
def nops_Decode (loop0:Int×Y6×Int×Y1×Y20×Y6×Y8×Y6→Option (Y1×Y8×Int)) (x:Y1):Option (Y1×Y8×Int):=
 ((cwire_Unfixed (x,(1:Int))).bind fun x1=>(bif (x1.2.2 != (0:Int)) then (let x2:Y1:=(([]:Y6),((0:Int),()));(let x3:Y8:=((0:Int),((0:Int),((0:Int),((0:Int),()))));(some (x2,x3,x1.2.2)))) else ((cops_isOperation (IntKind.u8.wrap x1.2.1)).bind fun x4=>(bif (!x4) then (let x5:Y1:=(([]:Y6),((0:Int),()));(let x6:Y8:=((0:Int),((0:Int),((0:Int),((0:Int),()))));(some (x5,x6,(12:Int))))) else ((getI gl0 (IntKind.u8.wrap x1.2.1)).bind fun x7=>(loop0 ((IntKind.u8.wrap x1.2.1),x7.2.1,(0:Int),x1.1,((0:Int),()),([]:List Int),((0:Int),((0:Int),((0:Int),((0:Int),())))),(List.replicate 3 (0:Int)))))))))
def mops_Decode (N:Nat) (x:Y1):Option (Y1×Y8×Int):=nops_Decode (iterV (gops_Decode_0 N) N) x
theorem jz31 (N:Nat) (x:Y1):rise (Ez31) Tz31 6 N Tryz.f121 [Z2] [Z2,Z5,Z3] [false,false,false] x=nops_Decode (fun v=>iterR (floc (Ez31) Tz31 6 N Tryz.f121 [Z2,Z5,Z3] [false,false,false] [] 0 nowhereR) N (ez31_0 v)) x:=by kernel_rfl
theorem lz31 (N:Nat) (x:Y1):rise (Ez31) Tz31 6 N Tryz.f121 [Z2] [Z2,Z5,Z3] [false,false,false] x=mops_Decode N x:=(jz31 N x).trans (by rw [funext (iterR_eq ez31_0 (bz31_0 N) N)];rfl)
def cops_Decode (x:Y1):Option (Y1×Y8×Int):=mops_Decode big x
def Gz31:Fn2:=⟨[Z2],[Z2,Z5,Z3],[false,false,false],fun x=>cops_Decode x⟩
theorem Lz31:Rises Tryz.prog 121 Gz31:=rises_of (E:=Ez31) ⟨tabOk,(fsCons2 Lz10 (fsCons2 Lz24 (fsCons2 Lz26 (fsCons2 Lz30 fsNil2)))),fun _ _ _=>rfl,mixed,inlNil,rcsNil,owsNil⟩ Tryz.func121 rfl (by decide) (by kernel_rfl) (by kernel_rfl) (by kernel_rfl) (by kernel_rfl) (fun x r _ h=>⟨Tz31,6,big,(lz31 big x).trans h⟩)
def Tz32:LT:={ live:=[],keep:=[(18,[2,4])] }
def Tz33:LT:={ live:=[],keep:=[] }
noncomputable def Ez33:Env2:={ tab:=tab,fs:=[(138,Gz0),(142,Gz1)],inl:=[] }
def nwire_Left (x:Y1):Option (Int×Int):=
 ((cwire_valid x).bind fun x1=>(bif (!x1) then (some ((0:Int),(8:Int))) else ((cwire_left x).bind fun x2=>(some (x2,(0:Int))))))
def mwire_Left (N:Nat) (x:Y1):Option (Int×Int):=nwire_Left x
theorem jz33 (N:Nat) (x:Y1):rise (Ez33) Tz33 6 N Tryz.f146 [Z2] [Z3,Z3] [false,false] x=nwire_Left x:=by kernel_rfl
theorem lz33 (N:Nat) (x:Y1):rise (Ez33) Tz33 6 N Tryz.f146 [Z2] [Z3,Z3] [false,false] x=mwire_Left N x:=(jz33 N x).trans rfl
def cwire_Left (x:Y1):Option (Int×Int):=mwire_Left big x
def Gz33:Fn2:=⟨[Z2],[Z3,Z3],[false,false],fun x=>cwire_Left x⟩
theorem Lz33:Rises Tryz.prog 146 Gz33:=rises_of (E:=Ez33) ⟨tabOk,(fsCons2 Lz0 (fsCons2 Lz1 fsNil2)),fun _ _ _=>rfl,mixed,inlNil,rcsNil,owsNil⟩ Tryz.func146 rfl (by decide) (by kernel_rfl) (by kernel_rfl) (by kernel_rfl) (by kernel_rfl) (fun x r _ h=>⟨Tz33,6,big,(lz33 big x).trans h⟩)
def Tz34:LT:={ live:=[],keep:=[] }
noncomputable def Ez34:Env2:={ tab:=tab,fs:=[],inl:=[] }
def ntables_isCount (x:Int):Option (Bool):=
 (bif (decide (x≥(1:Int))) then (some (decide (x≤(200:Int)))) else (some false))
def mtables_isCount (N:Nat) (x:Int):Option (Bool):=ntables_isCount x
theorem jz34 (N:Nat) (x:Int):rise (Ez34) Tz34 6 N Tryz.f147 [Z3] [.bool] [false] x=ntables_isCount x:=by kernel_rfl
theorem lz34 (N:Nat) (x:Int):rise (Ez34) Tz34 6 N Tryz.f147 [Z3] [.bool] [false] x=mtables_isCount N x:=(jz34 N x).trans rfl
def ctables_isCount (x:Int):Option (Bool):=mtables_isCount big x
def Gz34:Fn2:=⟨[Z3],[.bool],[false],fun x=>ctables_isCount x⟩
theorem Lz34:Rises Tryz.prog 147 Gz34:=rises_of (E:=Ez34) ⟨tabOk,fsNil2,fun _ _ _=>rfl,mixed,inlNil,rcsNil,owsNil⟩ Tryz.func147 rfl (by decide) (by kernel_rfl) (by kernel_rfl) (by kernel_rfl) (by kernel_rfl) (fun x r _ h=>⟨Tz34,6,big,(lz34 big x).trans h⟩)
def Tz35:LT:={ live:=[],keep:=[] }
noncomputable def Ez35:Env2:={ tab:=tab,fs:=[(116,Gz5)],inl:=[] }
def ntables_readRun (x:Y1×Int×Int):Option (Y1×Y5×Int):=
 ((cwire_Unvary (x.1,(18446744073709551615:Int))).bind fun x1=>(bif (x1.2.2 != (0:Int)) then (let x2:Y1:=(([]:Y6),((0:Int),()));(let x3:Y5:=((0:Int),((0:Int),()));(some (x2,x3,x1.2.2)))) else ((cwire_Unvary (x1.1,(18446744073709551615:Int))).bind fun x4=>(bif (x4.2.2 != (0:Int)) then (let x5:Y1:=(([]:Y6),((0:Int),()));(let x6:Y5:=((0:Int),((0:Int),()));(some (x5,x6,x4.2.2)))) else (let x7:Int:=(if (IntKind.u64.wrap x.2.2) < x1.2.1 then (IntKind.u64.wrap x.2.2) else x1.2.1);(let x8:Int:=(IntKind.i64.wrap (x.2.1+(IntKind.i64.wrap x7)));(some (x4.1,(x8,(x4.2.1,())),(0:Int)))))))))
def mtables_readRun (N:Nat) (x:Y1×Int×Int):Option (Y1×Y5×Int):=ntables_readRun x
theorem jz35 (N:Nat) (x:Y1×Int×Int):rise (Ez35) Tz35 6 N Tryz.f148 [Z2,Z3,Z3] [Z2,Z6,Z3] [false,false,false] x=ntables_readRun x:=by kernel_rfl
theorem lz35 (N:Nat) (x:Y1×Int×Int):rise (Ez35) Tz35 6 N Tryz.f148 [Z2,Z3,Z3] [Z2,Z6,Z3] [false,false,false] x=mtables_readRun N x:=(jz35 N x).trans rfl
def ctables_readRun (x:Y1×Int×Int):Option (Y1×Y5×Int):=mtables_readRun big x
def Gz35:Fn2:=⟨[Z2,Z3,Z3],[Z2,Z6,Z3],[false,false,false],fun x=>ctables_readRun x⟩
theorem Lz35:Rises Tryz.prog 148 Gz35:=rises_of (E:=Ez35) ⟨tabOk,(fsCons2 Lz5 fsNil2),fun _ _ _=>rfl,mixed,inlNil,rcsNil,owsNil⟩ Tryz.func148 rfl (by decide) (by kernel_rfl) (by kernel_rfl) (by kernel_rfl) (by kernel_rfl) (fun x r _ h=>⟨Tz35,6,big,(lz35 big x).trans h⟩)
def Tz36:LT:={ live:=[],keep:=[] }
noncomputable def Ez36:Env2:={ tab:=tab,fs:=[],inl:=[] }
def ntables_sameValue (x:Y5×Y5):Option (Bool):=
 (some (eqD Z6 (x.2.1,x.1.2) x.2))
def mtables_sameValue (N:Nat) (x:Y5×Y5):Option (Bool):=ntables_sameValue x
theorem jz36 (N:Nat) (x:Y5×Y5):rise (Ez36) Tz36 6 N Tryz.f154 [Z6,Z6] [.bool] [false] x=ntables_sameValue x:=by kernel_rfl
theorem lz36 (N:Nat) (x:Y5×Y5):rise (Ez36) Tz36 6 N Tryz.f154 [Z6,Z6] [.bool] [false] x=mtables_sameValue N x:=(jz36 N x).trans rfl
def ctables_sameValue (x:Y5×Y5):Option (Bool):=mtables_sameValue big x
def Gz36:Fn2:=⟨[Z6,Z6],[.bool],[false],fun x=>ctables_sameValue x⟩
theorem Lz36:Rises Tryz.prog 154 Gz36:=rises_of (E:=Ez36) ⟨tabOk,fsNil2,fun _ _ _=>rfl,mixed,inlNil,rcsNil,owsNil⟩ Tryz.func154 rfl (by decide) (by kernel_rfl) (by kernel_rfl) (by kernel_rfl) (by kernel_rfl) (fun x r _ h=>⟨Tz36,6,big,(lz36 big x).trans h⟩)
def Tz37:LT:={ live:=[(6,[0,32,33])],keep:=[] }
noncomputable def Ez37:Env2:={ tab:=tab,fs:=[(147,Gz34),(154,Gz36)],inl:=[] }
noncomputable def ez37_0 (v:Y11×Int×Int):St:={ s:=[(0,(.val ⟨(.slice Z6),v.1⟩)),(32,(.val ⟨Z3,v.2.1⟩)),(33,(.val ⟨Z3,v.2.2⟩))],l:=[],k:=[],b:=4096 }
def htables_Check_0 (self0:Y11×Int×Int→Option (Int)) (v:Y11×Int×Int):Option (Int):=
 (bif (decide (v.2.2 < v.2.1)) then ((getI v.1 v.2.2).bind fun x6=>(let x7:Int:=(IntKind.i64.wrap (v.2.2+(1:Int)));((getI v.1 x7).bind fun x8=>(bif (decide (x6.1≥x8.1)) then (some (8:Int)) else ((getI v.1 v.2.2).bind fun x9=>(let x10:Int:=(IntKind.i64.wrap (v.2.2+(1:Int)));((getI v.1 x10).bind fun x11=>((ctables_sameValue (x9,x11)).bind fun x12=>(bif x12 then (some (8:Int)) else (let x13:Int:=(IntKind.i64.wrap (v.2.2+(1:Int)));(self0 (v.1,v.2.1,x13)))))))))))) else (some (0:Int)))
def gtables_Check_0 (N:Nat) (self0:Y11×Int×Int→Option (Int)) (v:Y11×Int×Int):Option (Int):=htables_Check_0 self0 v
theorem kz37_0 (N:Nat) (s0:St→Option (Int)) (v):(floc (Ez37) Tz37 6 N Tryz.f126 [Z3] [false] [] 0 nowhereR) s0 (ez37_0 v)=htables_Check_0 (fun v=>s0 (ez37_0 v)) v:=by kernel_rfl
theorem bz37_0 (N:Nat) (s0:St→Option (Int)) (v):(floc (Ez37) Tz37 6 N Tryz.f126 [Z3] [false] [] 0 nowhereR) s0 (ez37_0 v)=gtables_Check_0 N (fun v=>s0 (ez37_0 v)) v:=kz37_0 N s0 v
def ntables_Check (loop0:Y11×Int×Int→Option (Int)) (x:Y11×Int):Option (Int):=
 ((ctables_isCount x.2).bind fun x1=>(bif (!x1) then (some (2:Int)) else (bif ((List.length x.1:Int)==(0:Int)) then (some (8:Int)) else ((getI x.1 (0:Int)).bind fun x2=>(bif (x2.1 != (0:Int)) then (some (8:Int)) else (let x3:Int:=(IntKind.i64.wrap ((List.length x.1:Int) - (1:Int)));((getI x.1 x3).bind fun x4=>(bif (decide (x4.1≥x.2)) then (some (8:Int)) else (let x5:Int:=(IntKind.i64.wrap ((List.length x.1:Int) - (1:Int)));(loop0 (x.1,x5,(0:Int))))))))))))
def mtables_Check (N:Nat) (x:Y11×Int):Option (Int):=ntables_Check (iterV (gtables_Check_0 N) N) x
theorem jz37 (N:Nat) (x:Y11×Int):rise (Ez37) Tz37 6 N Tryz.f126 [(.slice Z6),Z3] [Z3] [false] x=ntables_Check (fun v=>iterR (floc (Ez37) Tz37 6 N Tryz.f126 [Z3] [false] [] 0 nowhereR) N (ez37_0 v)) x:=by kernel_rfl
theorem lz37 (N:Nat) (x:Y11×Int):rise (Ez37) Tz37 6 N Tryz.f126 [(.slice Z6),Z3] [Z3] [false] x=mtables_Check N x:=(jz37 N x).trans (by rw [funext (iterR_eq ez37_0 (bz37_0 N) N)];rfl)
def ctables_Check (x:Y11×Int):Option (Int):=mtables_Check big x
def Gz37:Fn2:=⟨[(.slice Z6),Z3],[Z3],[false],fun x=>ctables_Check x⟩
theorem Lz37:Rises Tryz.prog 126 Gz37:=rises_of (E:=Ez37) ⟨tabOk,(fsCons2 Lz34 (fsCons2 Lz36 fsNil2)),fun _ _ _=>rfl,mixed,inlNil,rcsNil,owsNil⟩ Tryz.func126 rfl (by decide) (by kernel_rfl) (by kernel_rfl) (by kernel_rfl) (by kernel_rfl) (fun x r _ h=>⟨Tz37,6,big,(lz37 big x).trans h⟩)
def Tz38:LT:={ live:=[(12,[1,2,4,11,12,42,43])],keep:=[] }
noncomputable def Ez38 (mk:(α:Type)→Nat→α→List α):Env2:={ tab:=tab,fs:=[(116,Gz5),(126,Gz37),(146,Gz33),(147,Gz34),(148,Gz35)],inl:=[],rep:=mk }
noncomputable def ez38_0 (v:Int×Int×Int×Int×Y1×Y20×Y6×Y11):St:={ s:=[(1,(.val ⟨Z3,v.1⟩)),(2,(.loc 0 [])),(4,(.loc 1 [])),(11,(.row 3)),(12,(.val ⟨Z3,v.2.1⟩)),(42,(.val ⟨Z3,v.2.2.1⟩)),(43,(.val ⟨Z3,v.2.2.2.1⟩))],l:=[(0,.var Z2 (.val ⟨Z2,v.2.2.2.2.1⟩)),(1,.var Z2 (.pair (.row 2) (.val ⟨(.pair Z3 .unit),v.2.2.2.2.2.1⟩))),(2,.row Z13 v.2.2.2.2.2.2.1),(3,.row Z6 v.2.2.2.2.2.2.2)],k:=[],b:=4096 }
def htables_Decode_0 (mk:(α:Type)→Nat→α→List α) (self0:Int×Int×Int×Int×Y1×Y20×Y6×Y11→Option (Y1×Y11×Int)) (v:Int×Int×Int×Int×Y1×Y20×Y6×Y11):Option (Y1×Y11×Int):=
 (bif (decide (v.2.2.2.1 < v.2.2.1)) then ((ctables_readRun (v.2.2.2.2.1,v.2.1,v.1)).bind fun x8=>(bif (decide (0≤v.2.2.2.1)&&decide (v.2.2.2.1 < (List.length v.2.2.2.2.2.2.2:Int))) then (let x9:Y11:=(List.set v.2.2.2.2.2.2.2 (Int.toNat v.2.2.2.1) x8.2.1);(bif (x8.2.2 != (0:Int)) then (let x10:Y1:=(([]:Y6),((0:Int),()));(some (x10,([]:List Y5),x8.2.2))) else (bif (decide (0≤v.2.2.2.1)&&decide (v.2.2.2.1 < (List.length x9:Int))) then ((nth x9 (Int.toNat v.2.2.2.1)).bind fun x11=>(let x12:Int:=(IntKind.i64.wrap (v.2.2.2.1+(1:Int)));(self0 (v.1,x11.1,v.2.2.1,x12,x8.1,v.2.2.2.2.2.1,v.2.2.2.2.2.2.1,x9)))) else none))) else none)) else ((ctables_Check (v.2.2.2.2.2.2.2,v.1)).bind fun x13=>(bif (x13 != (0:Int)) then (let x14:Y1:=(([]:Y6),((0:Int),()));(some (x14,([]:List Y5),(12:Int)))) else (some (v.2.2.2.2.1,v.2.2.2.2.2.2.2,(0:Int))))))
def gtables_Decode_0 (mk:(α:Type)→Nat→α→List α) (N:Nat) (self0:Int×Int×Int×Int×Y1×Y20×Y6×Y11→Option (Y1×Y11×Int)) (v:Int×Int×Int×Int×Y1×Y20×Y6×Y11):Option (Y1×Y11×Int):=htables_Decode_0 mk self0 v
theorem kz38_0 (mk:(α:Type)→Nat→α→List α) (N:Nat) (s0:St→Option (Y1×Y11×Int)) (v):(floc (Ez38 mk) Tz38 6 N Tryz.f122 [Z2,(.slice Z6),Z3] [false,true,false] [] 0 nowhereR) s0 (ez38_0 v)=htables_Decode_0 mk (fun v=>s0 (ez38_0 v)) v:=by kernel_rfl
theorem bz38_0 (mk:(α:Type)→Nat→α→List α) (N:Nat) (s0:St→Option (Y1×Y11×Int)) (v):(floc (Ez38 mk) Tz38 6 N Tryz.f122 [Z2,(.slice Z6),Z3] [false,true,false] [] 0 nowhereR) s0 (ez38_0 v)=gtables_Decode_0 mk N (fun v=>s0 (ez38_0 v)) v:=kz38_0 mk N s0 v
def ntables_Decode (mk:(α:Type)→Nat→α→List α) (loop0:Int×Int×Int×Int×Y1×Y20×Y6×Y11→Option (Y1×Y11×Int)) (x:Y1×Int):Option (Y1×Y11×Int):=
 ((cwire_Left x.1).bind fun x1=>(bif (x1.2 != (0:Int)) then (let x2:Y1:=(([]:Y6),((0:Int),()));(some (x2,([]:List Y5),x1.2))) else ((ctables_isCount x.2).bind fun x3=>(bif (!x3) then (let x4:Y1:=(([]:Y6),((0:Int),()));(some (x4,([]:List Y5),(2:Int)))) else ((cwire_Unvary (x.1,(IntKind.u64.wrap x.2))).bind fun x5=>(bif (x5.2.2 != (0:Int)) then (let x6:Y1:=(([]:Y6),((0:Int),()));(some (x6,([]:List Y5),x5.2.2))) else (bif (decide (0≤x5.2.1)&&(decide (x5.2.1≤x5.2.1)&&(decide (x5.2.1≤68719476736)&&true))) then (let x7:Y11:=(mk Y5 (Int.toNat x5.2.1) ((0:Int),((0:Int),())));(loop0 (x.2,(0:Int),(List.length x7:Int),(0:Int),x5.1,((0:Int),()),([]:List Int),x7))) else none)))))))
def mtables_Decode (mk:(α:Type)→Nat→α→List α) (N:Nat) (x:Y1×Int):Option (Y1×Y11×Int):=ntables_Decode mk (iterV (gtables_Decode_0 mk N) N) x
theorem jz38 (mk:(α:Type)→Nat→α→List α) (N:Nat) (x:Y1×Int):rise (Ez38 mk) Tz38 6 N Tryz.f122 [Z2,Z3] [Z2,(.slice Z6),Z3] [false,true,false] x=ntables_Decode mk (fun v=>iterR (floc (Ez38 mk) Tz38 6 N Tryz.f122 [Z2,(.slice Z6),Z3] [false,true,false] [] 0 nowhereR) N (ez38_0 v)) x:=by kernel_rfl
theorem lz38 (mk:(α:Type)→Nat→α→List α) (N:Nat) (x:Y1×Int):rise (Ez38 mk) Tz38 6 N Tryz.f122 [Z2,Z3] [Z2,(.slice Z6),Z3] [false,true,false] x=mtables_Decode mk N x:=(jz38 mk N x).trans (by rw [funext (iterR_eq ez38_0 (bz38_0 mk N) N)];rfl)
def ctables_Decode (x:Y1×Int):Option (Y1×Y11×Int):=mtables_Decode (fun _=>List.replicate) big x
def Gz38:Fn2:=⟨[Z2,Z3],[Z2,(.slice Z6),Z3],[false,true,false],fun x=>ctables_Decode x⟩
theorem Lz38:Rises Tryz.prog 122 Gz38:=rises_of (E:=Ez38 (fun _=>List.replicate)) ⟨tabOk,(fsCons2 Lz5 (fsCons2 Lz37 (fsCons2 Lz33 (fsCons2 Lz34 (fsCons2 Lz35 fsNil2))))),fun _ _ _=>rfl,mixed,inlNil,rcsNil,owsNil⟩ Tryz.func122 rfl (by decide) (by kernel_rfl) (by kernel_rfl) (by kernel_rfl) (by kernel_rfl) (fun x r _ h=>⟨Tz38,6,big,(lz38 (fun _=>List.replicate) big x).trans h⟩)
def Tz39:LT:={ live:=[],keep:=[(21,[6])] }
def Tz40:LT:={ live:=[],keep:=[(14,[0,2,3]),(17,[0,2,3])] }
def Tz41:LT:={ live:=[],keep:=[(5,[0,2,3]),(8,[0,2,3]),(11,[2,3])] }
def Tz42:LT:={ live:=[],keep:=[] }
noncomputable def Ez42:Env2:={ tab:=tab,fs:=[],inl:=[] }
def nkinds_isIndex (x:Int×Int):Option (Bool):=
 (bif (decide (x.1≥(0:Int))) then (some (decide (x.1 < x.2))) else (some false))
def mkinds_isIndex (N:Nat) (x:Int×Int):Option (Bool):=nkinds_isIndex x
theorem jz42 (N:Nat) (x:Int×Int):rise (Ez42) Tz42 6 N Tryz.f168 [Z3,Z3] [.bool] [false] x=nkinds_isIndex x:=by kernel_rfl
theorem lz42 (N:Nat) (x:Int×Int):rise (Ez42) Tz42 6 N Tryz.f168 [Z3,Z3] [.bool] [false] x=mkinds_isIndex N x:=(jz42 N x).trans rfl
def ckinds_isIndex (x:Int×Int):Option (Bool):=mkinds_isIndex big x
def Gz42:Fn2:=⟨[Z3,Z3],[.bool],[false],fun x=>ckinds_isIndex x⟩
theorem Lz42:Rises Tryz.prog 168 Gz42:=rises_of (E:=Ez42) ⟨tabOk,fsNil2,fun _ _ _=>rfl,mixed,inlNil,rcsNil,owsNil⟩ Tryz.func168 rfl (by decide) (by kernel_rfl) (by kernel_rfl) (by kernel_rfl) (by kernel_rfl) (fun x r _ h=>⟨Tz42,6,big,(lz42 big x).trans h⟩)
def Tz43:LT:={ live:=[],keep:=[] }
noncomputable def Ez43:Env2:={ tab:=tab,fs:=[],inl:=[] }
def nkinds_isLetter (x:Int):Option (Bool):=
 (bif (decide (x≥(97:Int))) then (bif (decide (x≤(122:Int))) then (some true) else (bif (decide (x≥(65:Int))) then (some (decide (x≤(90:Int)))) else (some false))) else (bif (decide (x≥(65:Int))) then (some (decide (x≤(90:Int)))) else (some false)))
def mkinds_isLetter (N:Nat) (x:Int):Option (Bool):=nkinds_isLetter x
theorem jz43 (N:Nat) (x:Int):rise (Ez43) Tz43 6 N Tryz.f155 [Z13] [.bool] [false] x=nkinds_isLetter x:=by kernel_rfl
theorem lz43 (N:Nat) (x:Int):rise (Ez43) Tz43 6 N Tryz.f155 [Z13] [.bool] [false] x=mkinds_isLetter N x:=(jz43 N x).trans rfl
def ckinds_isLetter (x:Int):Option (Bool):=mkinds_isLetter big x
def Gz43:Fn2:=⟨[Z13],[.bool],[false],fun x=>ckinds_isLetter x⟩
theorem Lz43:Rises Tryz.prog 155 Gz43:=rises_of (E:=Ez43) ⟨tabOk,fsNil2,fun _ _ _=>rfl,mixed,inlNil,rcsNil,owsNil⟩ Tryz.func155 rfl (by decide) (by kernel_rfl) (by kernel_rfl) (by kernel_rfl) (by kernel_rfl) (fun x r _ h=>⟨Tz43,6,big,(lz43 big x).trans h⟩)
def Tz44:LT:={ live:=[],keep:=[] }
noncomputable def Ez44:Env2:={ tab:=tab,fs:=[],inl:=[] }
def nkinds_isDigit (x:Int):Option (Bool):=
 (bif (decide (x≥(48:Int))) then (some (decide (x≤(57:Int)))) else (some false))
def mkinds_isDigit (N:Nat) (x:Int):Option (Bool):=nkinds_isDigit x
theorem jz44 (N:Nat) (x:Int):rise (Ez44) Tz44 6 N Tryz.f156 [Z13] [.bool] [false] x=nkinds_isDigit x:=by kernel_rfl
theorem lz44 (N:Nat) (x:Int):rise (Ez44) Tz44 6 N Tryz.f156 [Z13] [.bool] [false] x=mkinds_isDigit N x:=(jz44 N x).trans rfl
def ckinds_isDigit (x:Int):Option (Bool):=mkinds_isDigit big x
def Gz44:Fn2:=⟨[Z13],[.bool],[false],fun x=>ckinds_isDigit x⟩
theorem Lz44:Rises Tryz.prog 156 Gz44:=rises_of (E:=Ez44) ⟨tabOk,fsNil2,fun _ _ _=>rfl,mixed,inlNil,rcsNil,owsNil⟩ Tryz.func156 rfl (by decide) (by kernel_rfl) (by kernel_rfl) (by kernel_rfl) (by kernel_rfl) (fun x r _ h=>⟨Tz44,6,big,(lz44 big x).trans h⟩)
def Tz45:LT:={ live:=[(4,[0,18,19])],keep:=[] }
noncomputable def Ez45:Env2:={ tab:=tab,fs:=[(155,Gz43),(156,Gz44)],inl:=[] }
noncomputable def ez45_0 (v:Y6×Int×Int):St:={ s:=[(0,(.val ⟨.str,v.1⟩)),(18,(.val ⟨Z3,v.2.1⟩)),(19,(.val ⟨Z3,v.2.2⟩))],l:=[],k:=[],b:=4096 }
def hkinds_Named_0 (self0:Y6×Int×Int→Option (Bool)) (v:Y6×Int×Int):Option (Bool):=
 (bif (decide (v.2.2 < v.2.1)) then ((getI v.1 v.2.2).bind fun x3=>((ckinds_isLetter x3).bind fun x4=>(bif (!x4) then ((getI v.1 v.2.2).bind fun x5=>((ckinds_isDigit x5).bind fun x6=>(bif (!x6) then (some false) else (let x7:Int:=(IntKind.i64.wrap (v.2.2+(1:Int)));(self0 (v.1,v.2.1,x7)))))) else (let x8:Int:=(IntKind.i64.wrap (v.2.2+(1:Int)));(self0 (v.1,v.2.1,x8)))))) else (some true))
def gkinds_Named_0 (N:Nat) (self0:Y6×Int×Int→Option (Bool)) (v:Y6×Int×Int):Option (Bool):=hkinds_Named_0 self0 v
theorem kz45_0 (N:Nat) (s0:St→Option (Bool)) (v):(floc (Ez45) Tz45 6 N Tryz.f127 [.bool] [false] [] 0 nowhereR) s0 (ez45_0 v)=hkinds_Named_0 (fun v=>s0 (ez45_0 v)) v:=by kernel_rfl
theorem bz45_0 (N:Nat) (s0:St→Option (Bool)) (v):(floc (Ez45) Tz45 6 N Tryz.f127 [.bool] [false] [] 0 nowhereR) s0 (ez45_0 v)=gkinds_Named_0 N (fun v=>s0 (ez45_0 v)) v:=kz45_0 N s0 v
def nkinds_Named (loop0:Y6×Int×Int→Option (Bool)) (x:Y6):Option (Bool):=
 (bif (eqD .str x ([]:List Int)) then (some false) else (bif (decide ((List.length x:Int) > (16:Int))) then (some false) else ((getI x (0:Int)).bind fun x1=>((ckinds_isLetter x1).bind fun x2=>(bif (!x2) then (some false) else (loop0 (x,(List.length x:Int),(0:Int))))))))
def mkinds_Named (N:Nat) (x:Y6):Option (Bool):=nkinds_Named (iterV (gkinds_Named_0 N) N) x
theorem jz45 (N:Nat) (x:Y6):rise (Ez45) Tz45 6 N Tryz.f127 [.str] [.bool] [false] x=nkinds_Named (fun v=>iterR (floc (Ez45) Tz45 6 N Tryz.f127 [.bool] [false] [] 0 nowhereR) N (ez45_0 v)) x:=by kernel_rfl
theorem lz45 (N:Nat) (x:Y6):rise (Ez45) Tz45 6 N Tryz.f127 [.str] [.bool] [false] x=mkinds_Named N x:=(jz45 N x).trans (by rw [funext (iterR_eq ez45_0 (bz45_0 N) N)];rfl)
def ckinds_Named (x:Y6):Option (Bool):=mkinds_Named big x
def Gz45:Fn2:=⟨[.str],[.bool],[false],fun x=>ckinds_Named x⟩
theorem Lz45:Rises Tryz.prog 127 Gz45:=rises_of (E:=Ez45) ⟨tabOk,(fsCons2 Lz43 (fsCons2 Lz44 fsNil2)),fun _ _ _=>rfl,mixed,inlNil,rcsNil,owsNil⟩ Tryz.func127 rfl (by decide) (by kernel_rfl) (by kernel_rfl) (by kernel_rfl) (by kernel_rfl) (fun x r _ h=>⟨Tz45,6,big,(lz45 big x).trans h⟩)
def Tz46:LT:={ live:=[(5,[1,5,17,18,19])],keep:=[] }
noncomputable def Ez46:Env2:={ tab:=tab,fs:=[(127,Gz45),(168,Gz42)],inl:=[] }
noncomputable def ez46_0 (v:Int×Y12×Int×Int×(List (Y6×Bool))):St:={ s:=[(1,(.val ⟨Z3,v.1⟩)),(5,(.mp 0)),(17,(.val ⟨(.slice Z8),v.2.1⟩)),(18,(.val ⟨Z3,v.2.2.1⟩)),(19,(.val ⟨Z3,v.2.2.2.1⟩))],l:=[(0,.mp .str .bool v.2.2.2.2)],k:=[],b:=4096 }
def hkinds_areBuilt_0 (self0:Int×Y12×Int×Int×(List (Y6×Bool))→Option (Bool)) (v:Int×Y12×Int×Int×(List (Y6×Bool))):Option (Bool):=
 (bif (decide (v.2.2.2.1 < v.2.2.1)) then ((getI v.2.1 v.2.2.2.1).bind fun x1=>((ckinds_Named x1.1).bind fun x2=>(bif (!x2) then (some false) else (bif (@atK .str .bool x1.1 false v.2.2.2.2).1 then (some false) else ((ckinds_isIndex (x1.2.1,v.1)).bind fun x3=>(bif (!x3) then (some false) else (let x4:(List (Y6×Bool)):=(@putK .str .bool x1.1 true v.2.2.2.2);(let x5:Int:=(IntKind.i64.wrap (v.2.2.2.1+(1:Int)));(self0 (v.1,v.2.1,v.2.2.1,x5,x4)))))))))) else (some true))
def gkinds_areBuilt_0 (N:Nat) (self0:Int×Y12×Int×Int×(List (Y6×Bool))→Option (Bool)) (v:Int×Y12×Int×Int×(List (Y6×Bool))):Option (Bool):=hkinds_areBuilt_0 self0 v
theorem kz46_0 (N:Nat) (s0:St→Option (Bool)) (v):(floc (Ez46) Tz46 6 N Tryz.f169 [.bool] [false] [] 0 nowhereR) s0 (ez46_0 v)=hkinds_areBuilt_0 (fun v=>s0 (ez46_0 v)) v:=by kernel_rfl
theorem bz46_0 (N:Nat) (s0:St→Option (Bool)) (v):(floc (Ez46) Tz46 6 N Tryz.f169 [.bool] [false] [] 0 nowhereR) s0 (ez46_0 v)=gkinds_areBuilt_0 N (fun v=>s0 (ez46_0 v)) v:=kz46_0 N s0 v
def nkinds_areBuilt (loop0:Int×Y12×Int×Int×(List (Y6×Bool))→Option (Bool)) (x:Y12×Int):Option (Bool):=
 (bif (decide ((List.length x.1:Int) < (1:Int))) then (some false) else (bif (decide ((List.length x.1:Int) > (8:Int))) then (some false) else (loop0 (x.2,x.1,(List.length x.1:Int),(0:Int),([]:List (Y6×Bool))))))
def mkinds_areBuilt (N:Nat) (x:Y12×Int):Option (Bool):=nkinds_areBuilt (iterV (gkinds_areBuilt_0 N) N) x
theorem jz46 (N:Nat) (x:Y12×Int):rise (Ez46) Tz46 6 N Tryz.f169 [(.slice Z8),Z3] [.bool] [false] x=nkinds_areBuilt (fun v=>iterR (floc (Ez46) Tz46 6 N Tryz.f169 [.bool] [false] [] 0 nowhereR) N (ez46_0 v)) x:=by kernel_rfl
theorem lz46 (N:Nat) (x:Y12×Int):rise (Ez46) Tz46 6 N Tryz.f169 [(.slice Z8),Z3] [.bool] [false] x=mkinds_areBuilt N x:=(jz46 N x).trans (by rw [funext (iterR_eq ez46_0 (bz46_0 N) N)];rfl)
def ckinds_areBuilt (x:Y12×Int):Option (Bool):=mkinds_areBuilt big x
def Gz46:Fn2:=⟨[(.slice Z8),Z3],[.bool],[false],fun x=>ckinds_areBuilt x⟩
theorem Lz46:Rises Tryz.prog 169 Gz46:=rises_of (E:=Ez46) ⟨tabOk,(fsCons2 Lz45 (fsCons2 Lz42 fsNil2)),fun _ _ _=>rfl,mixed,inlNil,rcsNil,owsNil⟩ Tryz.func169 rfl (by decide) (by kernel_rfl) (by kernel_rfl) (by kernel_rfl) (by kernel_rfl) (fun x r _ h=>⟨Tz46,6,big,(lz46 big x).trans h⟩)
def Tz47:LT:={ live:=[],keep:=[] }
noncomputable def Ez47:Env2:={ tab:=tab,fs:=[(168,Gz42),(169,Gz46)],inl:=[] }
def nkinds_isBuilt (x:Y7×Int×Int):Option (Bool):=
 (bif (x.1.1==(1:Int)) then (bif (x.1.1==(1:Int)) then (bif (x.1.2.1==(0:Int)) then (bif (x.1.2.2.1==(0:Int)) then (some ((List.length x.1.2.2.2.1:Int)==(0:Int))) else (some false)) else (some false)) else (bif (x.1.1==(4:Int)) then (bif (x.1.1==(4:Int)) then ((ckinds_isIndex (x.1.2.1,x.2.2)).bind fun x1=>(bif x1 then (bif (x.1.2.2.1==(0:Int)) then (some ((List.length x.1.2.2.2.1:Int)==(0:Int))) else (some false)) else (some false))) else (bif (x.1.1==(6:Int)) then ((ckinds_isIndex (x.1.2.1,x.2.1)).bind fun x2=>(bif x2 then (bif (decide (x.1.2.2.1≥(1:Int))) then (bif (decide (x.1.2.2.1≤(16:Int))) then (some ((List.length x.1.2.2.2.1:Int)==(0:Int))) else (some false)) else (some false)) else (some false))) else (bif (x.1.1==(5:Int)) then (bif (x.1.2.1==(0:Int)) then (bif (x.1.2.2.1==(0:Int)) then ((ckinds_areBuilt (x.1.2.2.2.1,x.2.1)).bind fun x3=>(some x3)) else (some false)) else (some false)) else (some false)))) else (bif (x.1.1==(7:Int)) then ((ckinds_isIndex (x.1.2.1,x.2.2)).bind fun x4=>(bif x4 then (bif (x.1.2.2.1==(0:Int)) then (some ((List.length x.1.2.2.2.1:Int)==(0:Int))) else (some false)) else (some false))) else (bif (x.1.1==(6:Int)) then ((ckinds_isIndex (x.1.2.1,x.2.1)).bind fun x5=>(bif x5 then (bif (decide (x.1.2.2.1≥(1:Int))) then (bif (decide (x.1.2.2.1≤(16:Int))) then (some ((List.length x.1.2.2.2.1:Int)==(0:Int))) else (some false)) else (some false)) else (some false))) else (bif (x.1.1==(5:Int)) then (bif (x.1.2.1==(0:Int)) then (bif (x.1.2.2.1==(0:Int)) then ((ckinds_areBuilt (x.1.2.2.2.1,x.2.1)).bind fun x6=>(some x6)) else (some false)) else (some false)) else (some false)))))) else (bif (x.1.1==(2:Int)) then (bif (x.1.1==(2:Int)) then (bif (x.1.2.1==(0:Int)) then (bif (x.1.2.2.1==(0:Int)) then (some ((List.length x.1.2.2.2.1:Int)==(0:Int))) else (some false)) else (some false)) else (bif (x.1.1==(4:Int)) then (bif (x.1.1==(4:Int)) then ((ckinds_isIndex (x.1.2.1,x.2.2)).bind fun x7=>(bif x7 then (bif (x.1.2.2.1==(0:Int)) then (some ((List.length x.1.2.2.2.1:Int)==(0:Int))) else (some false)) else (some false))) else (bif (x.1.1==(6:Int)) then ((ckinds_isIndex (x.1.2.1,x.2.1)).bind fun x8=>(bif x8 then (bif (decide (x.1.2.2.1≥(1:Int))) then (bif (decide (x.1.2.2.1≤(16:Int))) then (some ((List.length x.1.2.2.2.1:Int)==(0:Int))) else (some false)) else (some false)) else (some false))) else (bif (x.1.1==(5:Int)) then (bif (x.1.2.1==(0:Int)) then (bif (x.1.2.2.1==(0:Int)) then ((ckinds_areBuilt (x.1.2.2.2.1,x.2.1)).bind fun x9=>(some x9)) else (some false)) else (some false)) else (some false)))) else (bif (x.1.1==(7:Int)) then ((ckinds_isIndex (x.1.2.1,x.2.2)).bind fun x10=>(bif x10 then (bif (x.1.2.2.1==(0:Int)) then (some ((List.length x.1.2.2.2.1:Int)==(0:Int))) else (some false)) else (some false))) else (bif (x.1.1==(6:Int)) then ((ckinds_isIndex (x.1.2.1,x.2.1)).bind fun x11=>(bif x11 then (bif (decide (x.1.2.2.1≥(1:Int))) then (bif (decide (x.1.2.2.1≤(16:Int))) then (some ((List.length x.1.2.2.2.1:Int)==(0:Int))) else (some false)) else (some false)) else (some false))) else (bif (x.1.1==(5:Int)) then (bif (x.1.2.1==(0:Int)) then (bif (x.1.2.2.1==(0:Int)) then ((ckinds_areBuilt (x.1.2.2.2.1,x.2.1)).bind fun x12=>(some x12)) else (some false)) else (some false)) else (some false)))))) else (bif (x.1.1==(3:Int)) then (bif (x.1.2.1==(0:Int)) then (bif (x.1.2.2.1==(0:Int)) then (some ((List.length x.1.2.2.2.1:Int)==(0:Int))) else (some false)) else (some false)) else (bif (x.1.1==(4:Int)) then (bif (x.1.1==(4:Int)) then ((ckinds_isIndex (x.1.2.1,x.2.2)).bind fun x13=>(bif x13 then (bif (x.1.2.2.1==(0:Int)) then (some ((List.length x.1.2.2.2.1:Int)==(0:Int))) else (some false)) else (some false))) else (bif (x.1.1==(6:Int)) then ((ckinds_isIndex (x.1.2.1,x.2.1)).bind fun x14=>(bif x14 then (bif (decide (x.1.2.2.1≥(1:Int))) then (bif (decide (x.1.2.2.1≤(16:Int))) then (some ((List.length x.1.2.2.2.1:Int)==(0:Int))) else (some false)) else (some false)) else (some false))) else (bif (x.1.1==(5:Int)) then (bif (x.1.2.1==(0:Int)) then (bif (x.1.2.2.1==(0:Int)) then ((ckinds_areBuilt (x.1.2.2.2.1,x.2.1)).bind fun x15=>(some x15)) else (some false)) else (some false)) else (some false)))) else (bif (x.1.1==(7:Int)) then ((ckinds_isIndex (x.1.2.1,x.2.2)).bind fun x16=>(bif x16 then (bif (x.1.2.2.1==(0:Int)) then (some ((List.length x.1.2.2.2.1:Int)==(0:Int))) else (some false)) else (some false))) else (bif (x.1.1==(6:Int)) then ((ckinds_isIndex (x.1.2.1,x.2.1)).bind fun x17=>(bif x17 then (bif (decide (x.1.2.2.1≥(1:Int))) then (bif (decide (x.1.2.2.1≤(16:Int))) then (some ((List.length x.1.2.2.2.1:Int)==(0:Int))) else (some false)) else (some false)) else (some false))) else (bif (x.1.1==(5:Int)) then (bif (x.1.2.1==(0:Int)) then (bif (x.1.2.2.1==(0:Int)) then ((ckinds_areBuilt (x.1.2.2.2.1,x.2.1)).bind fun x18=>(some x18)) else (some false)) else (some false)) else (some false))))))))
def mkinds_isBuilt (N:Nat) (x:Y7×Int×Int):Option (Bool):=nkinds_isBuilt x
theorem jz47 (N:Nat) (x:Y7×Int×Int):rise (Ez47) Tz47 6 N Tryz.f163 [Z1,Z3,Z3] [.bool] [false] x=nkinds_isBuilt x:=by kernel_rfl
theorem lz47 (N:Nat) (x:Y7×Int×Int):rise (Ez47) Tz47 6 N Tryz.f163 [Z1,Z3,Z3] [.bool] [false] x=mkinds_isBuilt N x:=(jz47 N x).trans rfl
def ckinds_isBuilt (x:Y7×Int×Int):Option (Bool):=mkinds_isBuilt big x
def Gz47:Fn2:=⟨[Z1,Z3,Z3],[.bool],[false],fun x=>ckinds_isBuilt x⟩
theorem Lz47:Rises Tryz.prog 163 Gz47:=rises_of (E:=Ez47) ⟨tabOk,(fsCons2 Lz42 (fsCons2 Lz46 fsNil2)),fun _ _ _=>rfl,mixed,inlNil,rcsNil,owsNil⟩ Tryz.func163 rfl (by decide) (by kernel_rfl) (by kernel_rfl) (by kernel_rfl) (by kernel_rfl) (fun x r _ h=>⟨Tz47,6,big,(lz47 big x).trans h⟩)
def Tz48:LT:={ live:=[(3,[1,5,14,15,16]),(15,[1,5,6,8,14,15,16,57,58,59])],keep:=[] }
noncomputable def Ez48 (mk:(α:Type)→Nat→α→List α):Env2:={ tab:=tab,fs:=[],inl:=[],rep:=mk }
noncomputable def ez48_1 (v:Y30):St:={ s:=[(1,(.val ⟨Z11,v.1⟩)),(5,(.row 0)),(6,(.val ⟨Z3,v.2.1⟩)),(8,(.val ⟨Z3,v.2.2.1⟩)),(14,(.val ⟨Z12,v.2.2.2.1⟩)),(15,(.val ⟨Z3,v.2.2.2.2.1⟩)),(16,(.val ⟨Z3,v.2.2.2.2.2.1⟩)),(57,(.val ⟨(.slice Z8),v.2.2.2.2.2.2.1⟩)),(58,(.val ⟨Z3,v.2.2.2.2.2.2.2.1⟩)),(59,(.val ⟨Z3,v.2.2.2.2.2.2.2.2.1⟩))],l:=[(0,.row Z3 v.2.2.2.2.2.2.2.2.2)],k:=[],b:=4096 }
noncomputable def ez48_0 (v:Y6×Y2×Int×Int×Y6):St:={ s:=[(1,(.val ⟨Z11,v.1⟩)),(5,(.row 0)),(14,(.val ⟨Z12,v.2.1⟩)),(15,(.val ⟨Z3,v.2.2.1⟩)),(16,(.val ⟨Z3,v.2.2.2.1⟩))],l:=[(0,.row Z3 v.2.2.2.2)],k:=[],b:=4096 }
def hkinds_widened_1 (mk:(α:Type)→Nat→α→List α) (self0:Y6×Y2×Int×Int×Y6→Option (Y6)) (self1:Y30→Option (Y6)) (v:Y30):Option (Y6):=
 (bif (decide (v.2.2.2.2.2.2.2.2.1 < v.2.2.2.2.2.2.2.1)) then ((getI v.2.2.2.2.2.2.1 v.2.2.2.2.2.2.2.2.1).bind fun x20=>(bif (decide (0≤x20.2.1)&&decide (x20.2.1 < (List.length v.2.2.2.2.2.2.2.2.2:Int))) then ((nth v.2.2.2.2.2.2.2.2.2 (Int.toNat x20.2.1)).bind fun x21=>(let x22:Int:=(IntKind.i64.wrap (v.2.2.1+x21));(let x23:Int:=(IntKind.i64.wrap (v.2.2.2.2.2.2.2.2.1+(1:Int)));(self1 (v.1,v.2.1,x22,v.2.2.2.1,v.2.2.2.2.1,v.2.2.2.2.2.1,v.2.2.2.2.2.2.1,v.2.2.2.2.2.2.2.1,x23,v.2.2.2.2.2.2.2.2.2))))) else none)) else (let x24:Int:=(if (5001:Int) < v.2.2.1 then (5001:Int) else v.2.2.1);(bif (decide (0≤v.2.1)&&decide (v.2.1 < (List.length v.2.2.2.2.2.2.2.2.2:Int))) then (let x25:Y6:=(List.set v.2.2.2.2.2.2.2.2.2 (Int.toNat v.2.1) x24);(let x26:Int:=(IntKind.i64.wrap (v.2.2.2.2.2.1+(1:Int)));(self0 (v.1,v.2.2.2.1,v.2.2.2.2.1,x26,x25)))) else none)))
def gkinds_widened_1 (mk:(α:Type)→Nat→α→List α) (N:Nat) (self0:Y6×Y2×Int×Int×Y6→Option (Y6)) (self1:Y30→Option (Y6)) (v:Y30):Option (Y6):=hkinds_widened_1 mk self0 self1 v
theorem kz48_1 (mk:(α:Type)→Nat→α→List α) (N:Nat) (s0:St→Option (Y6)) (s1:St→Option (Y6)) (v):(floc (Ez48 mk) Tz48 6 N Tryz.f171 [Z11] [true] [] 1 (outerR s0 nowhereR)) s1 (ez48_1 v)=hkinds_widened_1 mk (fun v=>s0 (ez48_0 v)) (fun v=>s1 (ez48_1 v)) v:=by kernel_rfl
theorem bz48_1 (mk:(α:Type)→Nat→α→List α) (N:Nat) (s0:St→Option (Y6)) (s1:St→Option (Y6)) (v):(floc (Ez48 mk) Tz48 6 N Tryz.f171 [Z11] [true] [] 1 (outerR s0 nowhereR)) s1 (ez48_1 v)=gkinds_widened_1 mk N (fun v=>s0 (ez48_0 v)) (fun v=>s1 (ez48_1 v)) v:=kz48_1 mk N s0 s1 v
def hkinds_widened_0 (mk:(α:Type)→Nat→α→List α) (loop1:Y30→Option (Y6)) (self0:Y6×Y2×Int×Int×Y6→Option (Y6)) (v:Y6×Y2×Int×Int×Y6):Option (Y6):=
 (bif (decide (v.2.2.2.1 < v.2.2.1)) then ((getI v.2.1 v.2.2.2.1).bind fun x2=>(bif (x2.1==(4:Int)) then ((getI v.1 x2.2.1).bind fun x3=>(let x4:Int:=(IntKind.i64.wrap ((1:Int)+x3));(let x5:Int:=(if (5001:Int) < x4 then (5001:Int) else x4);(bif (decide (0≤v.2.2.2.1)&&decide (v.2.2.2.1 < (List.length v.2.2.2.2:Int))) then (let x6:Y6:=(List.set v.2.2.2.2 (Int.toNat v.2.2.2.1) x5);(let x7:Int:=(IntKind.i64.wrap (v.2.2.2.1+(1:Int)));(self0 (v.1,v.2.1,v.2.2.1,x7,x6)))) else none)))) else (bif (x2.1==(7:Int)) then ((getI v.1 x2.2.1).bind fun x8=>(let x9:Int:=(IntKind.i64.wrap ((16:Int) * x8));(let x10:Int:=(IntKind.i64.wrap ((1:Int)+x9));(let x11:Int:=(if (5001:Int) < x10 then (5001:Int) else x10);(bif (decide (0≤v.2.2.2.1)&&decide (v.2.2.2.1 < (List.length v.2.2.2.2:Int))) then (let x12:Y6:=(List.set v.2.2.2.2 (Int.toNat v.2.2.2.1) x11);(let x13:Int:=(IntKind.i64.wrap (v.2.2.2.1+(1:Int)));(self0 (v.1,v.2.1,v.2.2.1,x13,x12)))) else none))))) else (bif (x2.1==(6:Int)) then (bif (decide (0≤x2.2.1)&&decide (x2.2.1 < (List.length v.2.2.2.2:Int))) then ((nth v.2.2.2.2 (Int.toNat x2.2.1)).bind fun x14=>(let x15:Int:=(IntKind.i64.wrap (x2.2.2.1 * x14));(let x16:Int:=(IntKind.i64.wrap ((1:Int)+x15));(let x17:Int:=(if (5001:Int) < x16 then (5001:Int) else x16);(bif (decide (0≤v.2.2.2.1)&&decide (v.2.2.2.1 < (List.length v.2.2.2.2:Int))) then (let x18:Y6:=(List.set v.2.2.2.2 (Int.toNat v.2.2.2.1) x17);(let x19:Int:=(IntKind.i64.wrap (v.2.2.2.1+(1:Int)));(self0 (v.1,v.2.1,v.2.2.1,x19,x18)))) else none))))) else none) else (bif (x2.1==(5:Int)) then (loop1 (v.1,v.2.2.2.1,(1:Int),v.2.1,v.2.2.1,v.2.2.2.1,x2.2.2.2.1,(List.length x2.2.2.2.1:Int),(0:Int),v.2.2.2.2)) else (let x27:Int:=(if (5001:Int) < (1:Int) then (5001:Int) else (1:Int));(bif (decide (0≤v.2.2.2.1)&&decide (v.2.2.2.1 < (List.length v.2.2.2.2:Int))) then (let x28:Y6:=(List.set v.2.2.2.2 (Int.toNat v.2.2.2.1) x27);(let x29:Int:=(IntKind.i64.wrap (v.2.2.2.1+(1:Int)));(self0 (v.1,v.2.1,v.2.2.1,x29,x28)))) else none))))))) else (some v.2.2.2.2))
def gkinds_widened_0 (mk:(α:Type)→Nat→α→List α) (N:Nat) (self0:Y6×Y2×Int×Int×Y6→Option (Y6)) (v:Y6×Y2×Int×Int×Y6):Option (Y6):=hkinds_widened_0 mk (iterV (gkinds_widened_1 mk N self0) N) self0 v
theorem kz48_0 (mk:(α:Type)→Nat→α→List α) (N:Nat) (s0:St→Option (Y6)) (v):(floc (Ez48 mk) Tz48 6 N Tryz.f171 [Z11] [true] [] 0 nowhereR) s0 (ez48_0 v)=hkinds_widened_0 mk (fun v=>iterR (floc (Ez48 mk) Tz48 6 N Tryz.f171 [Z11] [true] [] 1 (outerR s0 nowhereR)) N (ez48_1 v)) (fun v=>s0 (ez48_0 v)) v:=by kernel_rfl
theorem bz48_0 (mk:(α:Type)→Nat→α→List α) (N:Nat) (s0:St→Option (Y6)) (v):(floc (Ez48 mk) Tz48 6 N Tryz.f171 [Z11] [true] [] 0 nowhereR) s0 (ez48_0 v)=gkinds_widened_0 mk N (fun v=>s0 (ez48_0 v)) v:=(kz48_0 mk N s0 v).trans (by rw [funext (iterR_eq ez48_1 (bz48_1 mk N s0) N)];rfl)
def nkinds_widened (mk:(α:Type)→Nat→α→List α) (loop0:Y6×Y2×Int×Int×Y6→Option (Y6)) (x:Y2×Y6):Option (Y6):=
 (bif (decide (0≤(List.length x.1:Int))&&(decide ((List.length x.1:Int)≤(List.length x.1:Int))&&(decide ((List.length x.1:Int)≤68719476736)&&true))) then (let x1:Y6:=(mk Int (Int.toNat (List.length x.1:Int)) (0:Int));(loop0 (x.2,x.1,(List.length x.1:Int),(0:Int),x1))) else none)
def mkinds_widened (mk:(α:Type)→Nat→α→List α) (N:Nat) (x:Y2×Y6):Option (Y6):=nkinds_widened mk (iterV (gkinds_widened_0 mk N) N) x
theorem jz48 (mk:(α:Type)→Nat→α→List α) (N:Nat) (x:Y2×Y6):rise (Ez48 mk) Tz48 6 N Tryz.f171 [Z12,Z11] [Z11] [true] x=nkinds_widened mk (fun v=>iterR (floc (Ez48 mk) Tz48 6 N Tryz.f171 [Z11] [true] [] 0 nowhereR) N (ez48_0 v)) x:=by kernel_rfl
theorem lz48 (mk:(α:Type)→Nat→α→List α) (N:Nat) (x:Y2×Y6):rise (Ez48 mk) Tz48 6 N Tryz.f171 [Z12,Z11] [Z11] [true] x=mkinds_widened mk N x:=(jz48 mk N x).trans (by rw [funext (iterR_eq ez48_0 (bz48_0 mk N) N)];rfl)
def ckinds_widened (x:Y2×Y6):Option (Y6):=mkinds_widened (fun _=>List.replicate) big x
def Gz48:Fn2:=⟨[Z12,Z11],[Z11],[true],fun x=>ckinds_widened x⟩
theorem Lz48:Rises Tryz.prog 171 Gz48:=rises_of (E:=Ez48 (fun _=>List.replicate)) ⟨tabOk,fsNil2,fun _ _ _=>rfl,mixed,inlNil,rcsNil,owsNil⟩ Tryz.func171 rfl (by decide) (by kernel_rfl) (by kernel_rfl) (by kernel_rfl) (by kernel_rfl) (fun x r _ h=>⟨Tz48,6,big,(lz48 (fun _=>List.replicate) big x).trans h⟩)
def Tz49:LT:={ live:=[(3,[0,3,7])],keep:=[] }
noncomputable def Ez49 (mk:(α:Type)→Nat→α→List α):Env2:={ tab:=tab,fs:=[(171,Gz48)],inl:=[],rep:=mk }
noncomputable def ez49_0 (v:Y2×Int×Y6):St:={ s:=[(0,(.val ⟨Z12,v.1⟩)),(3,(.row 0)),(7,(.val ⟨Z3,v.2.1⟩))],l:=[(0,.row Z3 v.2.2)],k:=[],b:=4096 }
def hkinds_widths_0 (mk:(α:Type)→Nat→α→List α) (self0:Y2×Int×Y6→Option (Y6)) (v:Y2×Int×Y6):Option (Y6):=
 (bif (decide (v.2.1 < (4:Int))) then ((ckinds_widened (v.1,v.2.2)).bind fun x2=>(let x3:Int:=(IntKind.i64.wrap (v.2.1+(1:Int)));(self0 (v.1,x3,x2)))) else (some v.2.2))
def gkinds_widths_0 (mk:(α:Type)→Nat→α→List α) (N:Nat) (self0:Y2×Int×Y6→Option (Y6)) (v:Y2×Int×Y6):Option (Y6):=hkinds_widths_0 mk self0 v
theorem kz49_0 (mk:(α:Type)→Nat→α→List α) (N:Nat) (s0:St→Option (Y6)) (v):(floc (Ez49 mk) Tz49 6 N Tryz.f165 [Z11] [true] [] 0 nowhereR) s0 (ez49_0 v)=hkinds_widths_0 mk (fun v=>s0 (ez49_0 v)) v:=by kernel_rfl
theorem bz49_0 (mk:(α:Type)→Nat→α→List α) (N:Nat) (s0:St→Option (Y6)) (v):(floc (Ez49 mk) Tz49 6 N Tryz.f165 [Z11] [true] [] 0 nowhereR) s0 (ez49_0 v)=gkinds_widths_0 mk N (fun v=>s0 (ez49_0 v)) v:=kz49_0 mk N s0 v
def nkinds_widths (mk:(α:Type)→Nat→α→List α) (loop0:Y2×Int×Y6→Option (Y6)) (x:Y2):Option (Y6):=
 (bif (decide (0≤(List.length x:Int))&&(decide ((List.length x:Int)≤(List.length x:Int))&&(decide ((List.length x:Int)≤68719476736)&&true))) then (let x1:Y6:=(mk Int (Int.toNat (List.length x:Int)) (0:Int));(loop0 (x,(0:Int),x1))) else none)
def mkinds_widths (mk:(α:Type)→Nat→α→List α) (N:Nat) (x:Y2):Option (Y6):=nkinds_widths mk (iterV (gkinds_widths_0 mk N) N) x
theorem jz49 (mk:(α:Type)→Nat→α→List α) (N:Nat) (x:Y2):rise (Ez49 mk) Tz49 6 N Tryz.f165 [Z12] [Z11] [true] x=nkinds_widths mk (fun v=>iterR (floc (Ez49 mk) Tz49 6 N Tryz.f165 [Z11] [true] [] 0 nowhereR) N (ez49_0 v)) x:=by kernel_rfl
theorem lz49 (mk:(α:Type)→Nat→α→List α) (N:Nat) (x:Y2):rise (Ez49 mk) Tz49 6 N Tryz.f165 [Z12] [Z11] [true] x=mkinds_widths mk N x:=(jz49 mk N x).trans (by rw [funext (iterR_eq ez49_0 (bz49_0 mk N) N)];rfl)
def ckinds_widths (x:Y2):Option (Y6):=mkinds_widths (fun _=>List.replicate) big x
def Gz49:Fn2:=⟨[Z12],[Z11],[true],fun x=>ckinds_widths x⟩
theorem Lz49:Rises Tryz.prog 165 Gz49:=rises_of (E:=Ez49 (fun _=>List.replicate)) ⟨tabOk,(fsCons2 Lz48 fsNil2),fun _ _ _=>rfl,mixed,inlNil,rcsNil,owsNil⟩ Tryz.func165 rfl (by decide) (by kernel_rfl) (by kernel_rfl) (by kernel_rfl) (by kernel_rfl) (fun x r _ h=>⟨Tz49,6,big,(lz49 (fun _=>List.replicate) big x).trans h⟩)
def Tz50:LT:={ live:=[(2,[0,1,7,8])],keep:=[] }
noncomputable def Ez50:Env2:={ tab:=tab,fs:=[],inl:=[] }
noncomputable def ez50_0 (v:Y6×Int×Int×Int):St:={ s:=[(0,(.val ⟨Z11,v.1⟩)),(1,(.val ⟨Z3,v.2.1⟩)),(7,(.val ⟨Z3,v.2.2.1⟩)),(8,(.val ⟨Z3,v.2.2.2⟩))],l:=[],k:=[],b:=4096 }
def hslices_Index_int_int_0 (self0:Y6×Int×Int×Int→Option (Int)) (v:Y6×Int×Int×Int):Option (Int):=
 (bif (decide (v.2.2.2 < v.2.2.1)) then ((getI v.1 v.2.2.2).bind fun x1=>(bif (v.2.1==x1) then (some v.2.2.2) else (let x2:Int:=(IntKind.i64.wrap (v.2.2.2+(1:Int)));(self0 (v.1,v.2.1,v.2.2.1,x2))))) else (some (-1:Int)))
def gslices_Index_int_int_0 (N:Nat) (self0:Y6×Int×Int×Int→Option (Int)) (v:Y6×Int×Int×Int):Option (Int):=hslices_Index_int_int_0 self0 v
theorem kz50_0 (N:Nat) (s0:St→Option (Int)) (v):(floc (Ez50) Tz50 6 N Tryz.f170 [Z3] [false] [] 0 nowhereR) s0 (ez50_0 v)=hslices_Index_int_int_0 (fun v=>s0 (ez50_0 v)) v:=by kernel_rfl
theorem bz50_0 (N:Nat) (s0:St→Option (Int)) (v):(floc (Ez50) Tz50 6 N Tryz.f170 [Z3] [false] [] 0 nowhereR) s0 (ez50_0 v)=gslices_Index_int_int_0 N (fun v=>s0 (ez50_0 v)) v:=kz50_0 N s0 v
def nslices_Index_int_int (loop0:Y6×Int×Int×Int→Option (Int)) (x:Y6×Int):Option (Int):=
 (loop0 (x.1,x.2,(List.length x.1:Int),(0:Int)))
def mslices_Index_int_int (N:Nat) (x:Y6×Int):Option (Int):=nslices_Index_int_int (iterV (gslices_Index_int_int_0 N) N) x
theorem jz50 (N:Nat) (x:Y6×Int):rise (Ez50) Tz50 6 N Tryz.f170 [Z11,Z3] [Z3] [false] x=nslices_Index_int_int (fun v=>iterR (floc (Ez50) Tz50 6 N Tryz.f170 [Z3] [false] [] 0 nowhereR) N (ez50_0 v)) x:=by kernel_rfl
theorem lz50 (N:Nat) (x:Y6×Int):rise (Ez50) Tz50 6 N Tryz.f170 [Z11,Z3] [Z3] [false] x=mslices_Index_int_int N x:=(jz50 N x).trans (by rw [funext (iterR_eq ez50_0 (bz50_0 N) N)];rfl)
def cslices_Index_int_int (x:Y6×Int):Option (Int):=mslices_Index_int_int big x
def Gz50:Fn2:=⟨[Z11,Z3],[Z3],[false],fun x=>cslices_Index_int_int x⟩
theorem Lz50:Rises Tryz.prog 170 Gz50:=rises_of (E:=Ez50) ⟨tabOk,fsNil2,fun _ _ _=>rfl,mixed,inlNil,rcsNil,owsNil⟩ Tryz.func170 rfl (by decide) (by kernel_rfl) (by kernel_rfl) (by kernel_rfl) (by kernel_rfl) (fun x r _ h=>⟨Tz50,6,big,(lz50 big x).trans h⟩)
def Tz51:LT:={ live:=[],keep:=[] }
noncomputable def Ez51:Env2:={ tab:=tab,fs:=[(170,Gz50)],inl:=[] }
def nslices_Contains_int_int (x:Y6×Int):Option (Bool):=
 ((cslices_Index_int_int (x.1,x.2)).bind fun x1=>(some (decide (x1≥(0:Int)))))
def mslices_Contains_int_int (N:Nat) (x:Y6×Int):Option (Bool):=nslices_Contains_int_int x
theorem jz51 (N:Nat) (x:Y6×Int):rise (Ez51) Tz51 6 N Tryz.f164 [Z11,Z3] [.bool] [false] x=nslices_Contains_int_int x:=by kernel_rfl
theorem lz51 (N:Nat) (x:Y6×Int):rise (Ez51) Tz51 6 N Tryz.f164 [Z11,Z3] [.bool] [false] x=mslices_Contains_int_int N x:=(jz51 N x).trans rfl
def cslices_Contains_int_int (x:Y6×Int):Option (Bool):=mslices_Contains_int_int big x
def Gz51:Fn2:=⟨[Z11,Z3],[.bool],[false],fun x=>cslices_Contains_int_int x⟩
theorem Lz51:Rises Tryz.prog 164 Gz51:=rises_of (E:=Ez51) ⟨tabOk,(fsCons2 Lz50 fsNil2),fun _ _ _=>rfl,mixed,inlNil,rcsNil,owsNil⟩ Tryz.func164 rfl (by decide) (by kernel_rfl) (by kernel_rfl) (by kernel_rfl) (by kernel_rfl) (fun x r _ h=>⟨Tz51,6,big,(lz51 big x).trans h⟩)
def Tz52:LT:={ live:=[(4,[0,8,9,10])],keep:=[] }
noncomputable def Ez52:Env2:={ tab:=tab,fs:=[(163,Gz47),(164,Gz51),(165,Gz49)],inl:=[] }
noncomputable def ez52_0 (v:Y2×Y2×Int×Int):St:={ s:=[(0,(.val ⟨Z12,v.1⟩)),(8,(.val ⟨Z12,v.2.1⟩)),(9,(.val ⟨Z3,v.2.2.1⟩)),(10,(.val ⟨Z3,v.2.2.2⟩))],l:=[],k:=[],b:=4096 }
def hkinds_Check_0 (self0:Y2×Y2×Int×Int→Option (Int)) (v:Y2×Y2×Int×Int):Option (Int):=
 (bif (decide (v.2.2.2 < v.2.2.1)) then ((getI v.2.1 v.2.2.2).bind fun x1=>((ckinds_isBuilt (x1,v.2.2.2,(List.length v.1:Int))).bind fun x2=>(bif (!x2) then (some (8:Int)) else (let x3:Int:=(IntKind.i64.wrap (v.2.2.2+(1:Int)));(self0 (v.1,v.2.1,v.2.2.1,x3)))))) else ((ckinds_widths v.1).bind fun x4=>((cslices_Contains_int_int (x4,(5001:Int))).bind fun x5=>(bif x5 then (some (8:Int)) else (some (0:Int))))))
def gkinds_Check_0 (N:Nat) (self0:Y2×Y2×Int×Int→Option (Int)) (v:Y2×Y2×Int×Int):Option (Int):=hkinds_Check_0 self0 v
theorem kz52_0 (N:Nat) (s0:St→Option (Int)) (v):(floc (Ez52) Tz52 6 N Tryz.f149 [Z3] [false] [] 0 nowhereR) s0 (ez52_0 v)=hkinds_Check_0 (fun v=>s0 (ez52_0 v)) v:=by kernel_rfl
theorem bz52_0 (N:Nat) (s0:St→Option (Int)) (v):(floc (Ez52) Tz52 6 N Tryz.f149 [Z3] [false] [] 0 nowhereR) s0 (ez52_0 v)=gkinds_Check_0 N (fun v=>s0 (ez52_0 v)) v:=kz52_0 N s0 v
def nkinds_Check (loop0:Y2×Y2×Int×Int→Option (Int)) (x:Y2):Option (Int):=
 (bif (decide ((List.length x:Int) > (32:Int))) then (some (8:Int)) else (loop0 (x,x,(List.length x:Int),(0:Int))))
def mkinds_Check (N:Nat) (x:Y2):Option (Int):=nkinds_Check (iterV (gkinds_Check_0 N) N) x
theorem jz52 (N:Nat) (x:Y2):rise (Ez52) Tz52 6 N Tryz.f149 [Z12] [Z3] [false] x=nkinds_Check (fun v=>iterR (floc (Ez52) Tz52 6 N Tryz.f149 [Z3] [false] [] 0 nowhereR) N (ez52_0 v)) x:=by kernel_rfl
theorem lz52 (N:Nat) (x:Y2):rise (Ez52) Tz52 6 N Tryz.f149 [Z12] [Z3] [false] x=mkinds_Check N x:=(jz52 N x).trans (by rw [funext (iterR_eq ez52_0 (bz52_0 N) N)];rfl)
def ckinds_Check (x:Y2):Option (Int):=mkinds_Check big x
def Gz52:Fn2:=⟨[Z12],[Z3],[false],fun x=>ckinds_Check x⟩
theorem Lz52:Rises Tryz.prog 149 Gz52:=rises_of (E:=Ez52) ⟨tabOk,(fsCons2 Lz47 (fsCons2 Lz51 (fsCons2 Lz49 fsNil2))),fun _ _ _=>rfl,mixed,inlNil,rcsNil,owsNil⟩ Tryz.func149 rfl (by decide) (by kernel_rfl) (by kernel_rfl) (by kernel_rfl) (by kernel_rfl) (fun x r _ h=>⟨Tz52,6,big,(lz52 big x).trans h⟩)
def Tz53:LT:={ live:=[],keep:=[] }
noncomputable def Ez53:Env2:={ tab:=tab,fs:=[],inl:=[] }
def nlayout_isIndex (x:Int×Int):Option (Bool):=
 (bif (decide (x.1≥(0:Int))) then (some (decide (x.1 < x.2))) else (some false))
def mlayout_isIndex (N:Nat) (x:Int×Int):Option (Bool):=nlayout_isIndex x
theorem jz53 (N:Nat) (x:Int×Int):rise (Ez53) Tz53 6 N Tryz.f150 [Z3,Z3] [.bool] [false] x=nlayout_isIndex x:=by kernel_rfl
theorem lz53 (N:Nat) (x:Int×Int):rise (Ez53) Tz53 6 N Tryz.f150 [Z3,Z3] [.bool] [false] x=mlayout_isIndex N x:=(jz53 N x).trans rfl
def clayout_isIndex (x:Int×Int):Option (Bool):=mlayout_isIndex big x
def Gz53:Fn2:=⟨[Z3,Z3],[.bool],[false],fun x=>clayout_isIndex x⟩
theorem Lz53:Rises Tryz.prog 150 Gz53:=rises_of (E:=Ez53) ⟨tabOk,fsNil2,fun _ _ _=>rfl,mixed,inlNil,rcsNil,owsNil⟩ Tryz.func150 rfl (by decide) (by kernel_rfl) (by kernel_rfl) (by kernel_rfl) (by kernel_rfl) (fun x r _ h=>⟨Tz53,6,big,(lz53 big x).trans h⟩)
def Tz54:LT:={ live:=[],keep:=[] }
noncomputable def Ez54:Env2:={ tab:=tab,fs:=[],inl:=[] }
def nlayout_multiple (x:Int×Int):Option (Int):=
 (let x1:Int:=(IntKind.i64.wrap (x.1+x.2));(let x2:Int:=(IntKind.i64.wrap (x1 - (1:Int)));(bif (x.2==0) then none else (let x3:Int:=(IntKind.i64.wrap (x2.tdiv x.2));(let x4:Int:=(IntKind.i64.wrap (x3 * x.2));(some x4))))))
def mlayout_multiple (N:Nat) (x:Int×Int):Option (Int):=nlayout_multiple x
theorem jz54 (N:Nat) (x:Int×Int):rise (Ez54) Tz54 6 N Tryz.f173 [Z3,Z3] [Z3] [false] x=nlayout_multiple x:=by kernel_rfl
theorem lz54 (N:Nat) (x:Int×Int):rise (Ez54) Tz54 6 N Tryz.f173 [Z3,Z3] [Z3] [false] x=mlayout_multiple N x:=(jz54 N x).trans rfl
def clayout_multiple (x:Int×Int):Option (Int):=mlayout_multiple big x
def Gz54:Fn2:=⟨[Z3,Z3],[Z3],[false],fun x=>clayout_multiple x⟩
theorem Lz54:Rises Tryz.prog 173 Gz54:=rises_of (E:=Ez54) ⟨tabOk,fsNil2,fun _ _ _=>rfl,mixed,inlNil,rcsNil,owsNil⟩ Tryz.func173 rfl (by decide) (by kernel_rfl) (by kernel_rfl) (by kernel_rfl) (by kernel_rfl) (fun x r _ h=>⟨Tz54,6,big,(lz54 big x).trans h⟩)
def Tz55:LT:={ live:=[(4,[0,5,6,7,15,16,17])],keep:=[] }
noncomputable def Ez55 (mk:(α:Type)→Nat→α→List α):Env2:={ tab:=tab,fs:=[(173,Gz54)],inl:=[],rep:=mk }
noncomputable def ez55_0 (v:Y11×Y12×Int×Int×Y5×Y6×Y5):St:={ s:=[(0,(.val ⟨(.slice Z10),v.1⟩)),(5,(.loc 0 [])),(6,(.row 1)),(7,(.loc 2 [])),(15,(.val ⟨(.slice Z8),v.2.1⟩)),(16,(.val ⟨Z3,v.2.2.1⟩)),(17,(.val ⟨Z3,v.2.2.2.1⟩))],l:=[(0,.var Z10 (.val ⟨Z10,v.2.2.2.2.1⟩)),(1,.row Z3 v.2.2.2.2.2.1),(2,.var Z10 (.val ⟨Z10,v.2.2.2.2.2.2⟩))],k:=[],b:=4096 }
def hlayout_together_0 (mk:(α:Type)→Nat→α→List α) (self0:Y11×Y12×Int×Int×Y5×Y6×Y5→Option (Y6×Y5)) (v:Y11×Y12×Int×Int×Y5×Y6×Y5):Option (Y6×Y5):=
 (bif (decide (v.2.2.2.1 < v.2.2.1)) then ((getI v.2.1 v.2.2.2.1).bind fun x3=>((getI v.1 x3.2.1).bind fun x4=>((clayout_multiple (v.2.2.2.2.2.2.1,x4.2.1)).bind fun x5=>(bif (decide (0≤v.2.2.2.1)&&decide (v.2.2.2.1 < (List.length v.2.2.2.2.2.1:Int))) then (let x6:Y6:=(List.set v.2.2.2.2.2.1 (Int.toNat v.2.2.2.1) x5);(bif (decide (0≤v.2.2.2.1)&&decide (v.2.2.2.1 < (List.length x6:Int))) then ((nth x6 (Int.toNat v.2.2.2.1)).bind fun x7=>(let x8:Int:=(IntKind.i64.wrap (x7+x4.1));(let x9:Int:=(if x4.2.1 > (x8,v.2.2.2.2.2.2.2).2.1 then x4.2.1 else (x8,v.2.2.2.2.2.2.2).2.1);(let x10:Y5:=((x8,v.2.2.2.2.2.2.2).1,(x9,(x8,v.2.2.2.2.2.2.2).2.2));(let x11:Int:=(IntKind.i64.wrap (v.2.2.2.1+(1:Int)));(self0 (v.1,v.2.1,v.2.2.1,x11,v.2.2.2.2.1,x6,x10))))))) else none)) else none)))) else ((clayout_multiple (v.2.2.2.2.2.2.1,v.2.2.2.2.2.2.2.1)).bind fun x12=>(some (v.2.2.2.2.2.1,(x12,v.2.2.2.2.2.2.2)))))
def glayout_together_0 (mk:(α:Type)→Nat→α→List α) (N:Nat) (self0:Y11×Y12×Int×Int×Y5×Y6×Y5→Option (Y6×Y5)) (v:Y11×Y12×Int×Int×Y5×Y6×Y5):Option (Y6×Y5):=hlayout_together_0 mk self0 v
theorem kz55_0 (mk:(α:Type)→Nat→α→List α) (N:Nat) (s0:St→Option (Y6×Y5)) (v):(floc (Ez55 mk) Tz55 6 N Tryz.f172 [Z11,Z10] [true,false] [] 0 nowhereR) s0 (ez55_0 v)=hlayout_together_0 mk (fun v=>s0 (ez55_0 v)) v:=by kernel_rfl
theorem bz55_0 (mk:(α:Type)→Nat→α→List α) (N:Nat) (s0:St→Option (Y6×Y5)) (v):(floc (Ez55 mk) Tz55 6 N Tryz.f172 [Z11,Z10] [true,false] [] 0 nowhereR) s0 (ez55_0 v)=glayout_together_0 mk N (fun v=>s0 (ez55_0 v)) v:=kz55_0 mk N s0 v
def nlayout_together (mk:(α:Type)→Nat→α→List α) (loop0:Y11×Y12×Int×Int×Y5×Y6×Y5→Option (Y6×Y5)) (x:Y11×Y12):Option (Y6×Y5):=
 (bif (decide (0≤(List.length x.2:Int))&&(decide ((List.length x.2:Int)≤(List.length x.2:Int))&&(decide ((List.length x.2:Int)≤68719476736)&&true))) then (let x1:Y6:=(mk Int (Int.toNat (List.length x.2:Int)) (0:Int));(let x2:Y5:=((0:Int),((1:Int),()));(loop0 (x.1,x.2,(List.length x.2:Int),(0:Int),((0:Int),((0:Int),())),x1,x2)))) else none)
def mlayout_together (mk:(α:Type)→Nat→α→List α) (N:Nat) (x:Y11×Y12):Option (Y6×Y5):=nlayout_together mk (iterV (glayout_together_0 mk N) N) x
theorem jz55 (mk:(α:Type)→Nat→α→List α) (N:Nat) (x:Y11×Y12):rise (Ez55 mk) Tz55 6 N Tryz.f172 [(.slice Z10),(.slice Z8)] [Z11,Z10] [true,false] x=nlayout_together mk (fun v=>iterR (floc (Ez55 mk) Tz55 6 N Tryz.f172 [Z11,Z10] [true,false] [] 0 nowhereR) N (ez55_0 v)) x:=by kernel_rfl
theorem lz55 (mk:(α:Type)→Nat→α→List α) (N:Nat) (x:Y11×Y12):rise (Ez55 mk) Tz55 6 N Tryz.f172 [(.slice Z10),(.slice Z8)] [Z11,Z10] [true,false] x=mlayout_together mk N x:=(jz55 mk N x).trans (by rw [funext (iterR_eq ez55_0 (bz55_0 mk N) N)];rfl)
def clayout_together (x:Y11×Y12):Option (Y6×Y5):=mlayout_together (fun _=>List.replicate) big x
def Gz55:Fn2:=⟨[(.slice Z10),(.slice Z8)],[Z11,Z10],[true,false],fun x=>clayout_together x⟩
theorem Lz55:Rises Tryz.prog 172 Gz55:=rises_of (E:=Ez55 (fun _=>List.replicate)) ⟨tabOk,(fsCons2 Lz54 fsNil2),fun _ _ _=>rfl,mixed,inlNil,rcsNil,owsNil⟩ Tryz.func172 rfl (by decide) (by kernel_rfl) (by kernel_rfl) (by kernel_rfl) (by kernel_rfl) (fun x r _ h=>⟨Tz55,6,big,(lz55 (fun _=>List.replicate) big x).trans h⟩)
def Tz56:LT:={ live:=[],keep:=[] }
noncomputable def Ez56:Env2:={ tab:=tab,fs:=[(172,Gz55)],inl:=[] }
def nlayout_extentOf (x:Y7×Y11):Option (Y5):=
 (bif (x.1.1==(2:Int)) then (bif (x.1.1==(2:Int)) then (let x1:Y5:=((8:Int),((8:Int),()));(some x1)) else (bif (x.1.1==(3:Int)) then (let x2:Y5:=((16:Int),((8:Int),()));(some x2)) else (bif (x.1.1==(7:Int)) then (let x3:Y5:=((24:Int),((8:Int),()));(some x3)) else (bif (x.1.1==(6:Int)) then ((getI x.2 x.1.2.1).bind fun x4=>(let x5:Int:=(IntKind.i64.wrap (x.1.2.2.1 * x4.1));(some (x5,(x4.2.1,()))))) else (bif (x.1.1==(5:Int)) then ((clayout_together (x.2,x.1.2.2.2.1)).bind fun x6=>(some x6.2)) else (let x7:Y5:=((1:Int),((1:Int),()));(some x7))))))) else (bif (x.1.1==(4:Int)) then (let x8:Y5:=((8:Int),((8:Int),()));(some x8)) else (bif (x.1.1==(3:Int)) then (let x9:Y5:=((16:Int),((8:Int),()));(some x9)) else (bif (x.1.1==(7:Int)) then (let x10:Y5:=((24:Int),((8:Int),()));(some x10)) else (bif (x.1.1==(6:Int)) then ((getI x.2 x.1.2.1).bind fun x11=>(let x12:Int:=(IntKind.i64.wrap (x.1.2.2.1 * x11.1));(some (x12,(x11.2.1,()))))) else (bif (x.1.1==(5:Int)) then ((clayout_together (x.2,x.1.2.2.2.1)).bind fun x13=>(some x13.2)) else (let x14:Y5:=((1:Int),((1:Int),()));(some x14))))))))
def mlayout_extentOf (N:Nat) (x:Y7×Y11):Option (Y5):=nlayout_extentOf x
theorem jz56 (N:Nat) (x:Y7×Y11):rise (Ez56) Tz56 6 N Tryz.f166 [Z1,(.slice Z10)] [Z10] [false] x=nlayout_extentOf x:=by kernel_rfl
theorem lz56 (N:Nat) (x:Y7×Y11):rise (Ez56) Tz56 6 N Tryz.f166 [Z1,(.slice Z10)] [Z10] [false] x=mlayout_extentOf N x:=(jz56 N x).trans rfl
def clayout_extentOf (x:Y7×Y11):Option (Y5):=mlayout_extentOf big x
def Gz56:Fn2:=⟨[Z1,(.slice Z10)],[Z10],[false],fun x=>clayout_extentOf x⟩
theorem Lz56:Rises Tryz.prog 166 Gz56:=rises_of (E:=Ez56) ⟨tabOk,(fsCons2 Lz55 fsNil2),fun _ _ _=>rfl,mixed,inlNil,rcsNil,owsNil⟩ Tryz.func166 rfl (by decide) (by kernel_rfl) (by kernel_rfl) (by kernel_rfl) (by kernel_rfl) (fun x r _ h=>⟨Tz56,6,big,(lz56 big x).trans h⟩)
def Tz57:LT:={ live:=[(3,[3,6,7,8])],keep:=[] }
noncomputable def Ez57:Env2:={ tab:=tab,fs:=[(166,Gz56)],inl:=[] }
noncomputable def ez57_0 (v:Y2×Int×Int×Y11):St:={ s:=[(3,(.row 0)),(6,(.val ⟨Z12,v.1⟩)),(7,(.val ⟨Z3,v.2.1⟩)),(8,(.val ⟨Z3,v.2.2.1⟩))],l:=[(0,.row Z10 v.2.2.2)],k:=[],b:=4096 }
def hlayout_extents_0 (self0:Y2×Int×Int×Y11→Option (Y11)) (v:Y2×Int×Int×Y11):Option (Y11):=
 (bif (decide (v.2.2.1 < v.2.1)) then ((getI v.1 v.2.2.1).bind fun x1=>((clayout_extentOf (x1,v.2.2.2)).bind fun x2=>(let x3:Y11:=([x2]:Y11);(bif (Nat.ble 1 2&&Nat.ble (List.length v.2.2.2+List.length x3) lim) then (let x4:Int:=(IntKind.i64.wrap (v.2.2.1+(1:Int)));(self0 (v.1,v.2.1,x4,(List.append v.2.2.2 x3)))) else none)))) else (some v.2.2.2))
def glayout_extents_0 (N:Nat) (self0:Y2×Int×Int×Y11→Option (Y11)) (v:Y2×Int×Int×Y11):Option (Y11):=hlayout_extents_0 self0 v
theorem kz57_0 (N:Nat) (s0:St→Option (Y11)) (v):(floc (Ez57) Tz57 6 N Tryz.f151 [(.slice Z10)] [true] [] 0 nowhereR) s0 (ez57_0 v)=hlayout_extents_0 (fun v=>s0 (ez57_0 v)) v:=by kernel_rfl
theorem bz57_0 (N:Nat) (s0:St→Option (Y11)) (v):(floc (Ez57) Tz57 6 N Tryz.f151 [(.slice Z10)] [true] [] 0 nowhereR) s0 (ez57_0 v)=glayout_extents_0 N (fun v=>s0 (ez57_0 v)) v:=kz57_0 N s0 v
def nlayout_extents (loop0:Y2×Int×Int×Y11→Option (Y11)) (x:Y2):Option (Y11):=
 (loop0 (x,(List.length x:Int),(0:Int),([]:List Y5)))
def mlayout_extents (N:Nat) (x:Y2):Option (Y11):=nlayout_extents (iterV (glayout_extents_0 N) N) x
theorem jz57 (N:Nat) (x:Y2):rise (Ez57) Tz57 6 N Tryz.f151 [Z12] [(.slice Z10)] [true] x=nlayout_extents (fun v=>iterR (floc (Ez57) Tz57 6 N Tryz.f151 [(.slice Z10)] [true] [] 0 nowhereR) N (ez57_0 v)) x:=by kernel_rfl
theorem lz57 (N:Nat) (x:Y2):rise (Ez57) Tz57 6 N Tryz.f151 [Z12] [(.slice Z10)] [true] x=mlayout_extents N x:=(jz57 N x).trans (by rw [funext (iterR_eq ez57_0 (bz57_0 N) N)];rfl)
def clayout_extents (x:Y2):Option (Y11):=mlayout_extents big x
def Gz57:Fn2:=⟨[Z12],[(.slice Z10)],[true],fun x=>clayout_extents x⟩
theorem Lz57:Rises Tryz.prog 151 Gz57:=rises_of (E:=Ez57) ⟨tabOk,(fsCons2 Lz56 fsNil2),fun _ _ _=>rfl,mixed,inlNil,rcsNil,owsNil⟩ Tryz.func151 rfl (by decide) (by kernel_rfl) (by kernel_rfl) (by kernel_rfl) (by kernel_rfl) (fun x r _ h=>⟨Tz57,6,big,(lz57 big x).trans h⟩)
def Tz58:LT:={ live:=[],keep:=[] }
noncomputable def Ez58:Env2:={ tab:=tab,fs:=[(149,Gz52),(150,Gz53),(151,Gz57)],inl:=[] }
def nlayout_measured (x:Y2×Int):Option (Y11×Int):=
 ((ckinds_Check x.1).bind fun x1=>(bif (x1 != (0:Int)) then (some (([]:List Y5),x1)) else ((clayout_isIndex (x.2,(List.length x.1:Int))).bind fun x2=>(bif (!x2) then (some (([]:List Y5),(2:Int))) else ((clayout_extents x.1).bind fun x3=>(bif (decide (0≤x.2)&&decide (x.2 < (List.length x3:Int))) then ((nth x3 (Int.toNat x.2)).bind fun x4=>(bif (decide (x4.1 > (256:Int))) then (some (([]:List Y5),(16:Int))) else (some (x3,(0:Int))))) else none))))))
def mlayout_measured (N:Nat) (x:Y2×Int):Option (Y11×Int):=nlayout_measured x
theorem jz58 (N:Nat) (x:Y2×Int):rise (Ez58) Tz58 6 N Tryz.f123 [Z12,Z3] [(.slice Z10),Z3] [true,false] x=nlayout_measured x:=by kernel_rfl
theorem lz58 (N:Nat) (x:Y2×Int):rise (Ez58) Tz58 6 N Tryz.f123 [Z12,Z3] [(.slice Z10),Z3] [true,false] x=mlayout_measured N x:=(jz58 N x).trans rfl
def clayout_measured (x:Y2×Int):Option (Y11×Int):=mlayout_measured big x
def Gz58:Fn2:=⟨[Z12,Z3],[(.slice Z10),Z3],[true,false],fun x=>clayout_measured x⟩
theorem Lz58:Rises Tryz.prog 123 Gz58:=rises_of (E:=Ez58) ⟨tabOk,(fsCons2 Lz52 (fsCons2 Lz53 (fsCons2 Lz57 fsNil2))),fun _ _ _=>rfl,mixed,inlNil,rcsNil,owsNil⟩ Tryz.func123 rfl (by decide) (by kernel_rfl) (by kernel_rfl) (by kernel_rfl) (by kernel_rfl) (fun x r _ h=>⟨Tz58,6,big,(lz58 big x).trans h⟩)
def Tz59:LT:={ live:=[],keep:=[] }
noncomputable def Ez59:Env2:={ tab:=tab,fs:=[(123,Gz58)],inl:=[] }
def nlayout_Size (x:Y2×Int):Option (Int×Int×Int):=
 ((clayout_measured (x.1,x.2)).bind fun x1=>(bif (x1.2 != (0:Int)) then (some ((0:Int),(0:Int),x1.2)) else (bif (decide (0≤x.2)&&decide (x.2 < (List.length x1.1:Int))) then ((nth x1.1 (Int.toNat x.2)).bind fun x2=>(bif (decide (0≤x.2)&&decide (x.2 < (List.length x1.1:Int))) then ((nth x1.1 (Int.toNat x.2)).bind fun x3=>(some (x2.1,x3.2.1,(0:Int)))) else none)) else none)))
def mlayout_Size (N:Nat) (x:Y2×Int):Option (Int×Int×Int):=nlayout_Size x
theorem jz59 (N:Nat) (x:Y2×Int):rise (Ez59) Tz59 6 N Tryz.f88 [Z12,Z3] [Z3,Z3,Z3] [false,false,false] x=nlayout_Size x:=by kernel_rfl
theorem lz59 (N:Nat) (x:Y2×Int):rise (Ez59) Tz59 6 N Tryz.f88 [Z12,Z3] [Z3,Z3,Z3] [false,false,false] x=mlayout_Size N x:=(jz59 N x).trans rfl
def clayout_Size (x:Y2×Int):Option (Int×Int×Int):=mlayout_Size big x
def Gz59:Fn2:=⟨[Z12,Z3],[Z3,Z3,Z3],[false,false,false],fun x=>clayout_Size x⟩
theorem Lz59:Rises Tryz.prog 88 Gz59:=rises_of (E:=Ez59) ⟨tabOk,(fsCons2 Lz58 fsNil2),fun _ _ _=>rfl,mixed,inlNil,rcsNil,owsNil⟩ Tryz.func88 rfl (by decide) (by kernel_rfl) (by kernel_rfl) (by kernel_rfl) (by kernel_rfl) (fun x r _ h=>⟨Tz59,6,big,(lz59 big x).trans h⟩)
def Tz60:LT:={ live:=[(2,[0,8,9])],keep:=[] }
noncomputable def Ez60:Env2:={ tab:=tab,fs:=[(88,Gz59)],inl:=[] }
noncomputable def ez60_0 (v:Y2×Int×Int):St:={ s:=[(0,(.val ⟨Z12,v.1⟩)),(8,(.val ⟨Z3,v.2.1⟩)),(9,(.val ⟨Z3,v.2.2⟩))],l:=[],k:=[],b:=4096 }
def himage_areTypes_0 (self0:Y2×Int×Int→Option (Bool)) (v:Y2×Int×Int):Option (Bool):=
 (bif (decide (v.2.2 < v.2.1)) then ((clayout_Size (v.1,v.2.2)).bind fun x1=>(bif (x1.2.2 != (0:Int)) then (some false) else (let x2:Int:=(IntKind.i64.wrap (v.2.2+(1:Int)));(self0 (v.1,v.2.1,x2))))) else (some true))
def gimage_areTypes_0 (N:Nat) (self0:Y2×Int×Int→Option (Bool)) (v:Y2×Int×Int):Option (Bool):=himage_areTypes_0 self0 v
theorem kz60_0 (N:Nat) (s0:St→Option (Bool)) (v):(floc (Ez60) Tz60 6 N Tryz.f49 [.bool] [false] [] 0 nowhereR) s0 (ez60_0 v)=himage_areTypes_0 (fun v=>s0 (ez60_0 v)) v:=by kernel_rfl
theorem bz60_0 (N:Nat) (s0:St→Option (Bool)) (v):(floc (Ez60) Tz60 6 N Tryz.f49 [.bool] [false] [] 0 nowhereR) s0 (ez60_0 v)=gimage_areTypes_0 N (fun v=>s0 (ez60_0 v)) v:=kz60_0 N s0 v
def nimage_areTypes (loop0:Y2×Int×Int→Option (Bool)) (x:Y2):Option (Bool):=
 (loop0 (x,(List.length x:Int),(0:Int)))
def mimage_areTypes (N:Nat) (x:Y2):Option (Bool):=nimage_areTypes (iterV (gimage_areTypes_0 N) N) x
theorem jz60 (N:Nat) (x:Y2):rise (Ez60) Tz60 6 N Tryz.f49 [Z12] [.bool] [false] x=nimage_areTypes (fun v=>iterR (floc (Ez60) Tz60 6 N Tryz.f49 [.bool] [false] [] 0 nowhereR) N (ez60_0 v)) x:=by kernel_rfl
theorem lz60 (N:Nat) (x:Y2):rise (Ez60) Tz60 6 N Tryz.f49 [Z12] [.bool] [false] x=mimage_areTypes N x:=(jz60 N x).trans (by rw [funext (iterR_eq ez60_0 (bz60_0 N) N)];rfl)
def cimage_areTypes (x:Y2):Option (Bool):=mimage_areTypes big x
def Gz60:Fn2:=⟨[Z12],[.bool],[false],fun x=>cimage_areTypes x⟩
theorem Lz60:Rises Tryz.prog 49 Gz60:=rises_of (E:=Ez60) ⟨tabOk,(fsCons2 Lz59 fsNil2),fun _ _ _=>rfl,mixed,inlNil,rcsNil,owsNil⟩ Tryz.func49 rfl (by decide) (by kernel_rfl) (by kernel_rfl) (by kernel_rfl) (by kernel_rfl) (fun x r _ h=>⟨Tz60,6,big,(lz60 big x).trans h⟩)
def Tz61:LT:={ live:=[(4,[8,9,10])],keep:=[] }
noncomputable def Ez61:Env2:={ tab:=tab,fs:=[],inl:=[] }
noncomputable def ez61_0 (v:Y15×Int×Int):St:={ s:=[(8,(.val ⟨(.slice .str),v.1⟩)),(9,(.val ⟨Z3,v.2.1⟩)),(10,(.val ⟨Z3,v.2.2⟩))],l:=[],k:=[],b:=4096 }
def himage_areTexts_0 (self0:Y15×Int×Int→Option (Bool)) (v:Y15×Int×Int):Option (Bool):=
 (bif (decide (v.2.2 < v.2.1)) then ((getI v.1 v.2.2).bind fun x1=>(bif (decide ((List.length x1:Int) > (64:Int))) then (some false) else (let x2:Int:=(IntKind.i64.wrap (v.2.2+(1:Int)));(self0 (v.1,v.2.1,x2))))) else (some true))
def gimage_areTexts_0 (N:Nat) (self0:Y15×Int×Int→Option (Bool)) (v:Y15×Int×Int):Option (Bool):=himage_areTexts_0 self0 v
theorem kz61_0 (N:Nat) (s0:St→Option (Bool)) (v):(floc (Ez61) Tz61 6 N Tryz.f50 [.bool] [false] [] 0 nowhereR) s0 (ez61_0 v)=himage_areTexts_0 (fun v=>s0 (ez61_0 v)) v:=by kernel_rfl
theorem bz61_0 (N:Nat) (s0:St→Option (Bool)) (v):(floc (Ez61) Tz61 6 N Tryz.f50 [.bool] [false] [] 0 nowhereR) s0 (ez61_0 v)=gimage_areTexts_0 N (fun v=>s0 (ez61_0 v)) v:=kz61_0 N s0 v
def nimage_areTexts (loop0:Y15×Int×Int→Option (Bool)) (x:Y15):Option (Bool):=
 (bif (decide ((List.length x:Int) > (32:Int))) then (some false) else (loop0 (x,(List.length x:Int),(0:Int))))
def mimage_areTexts (N:Nat) (x:Y15):Option (Bool):=nimage_areTexts (iterV (gimage_areTexts_0 N) N) x
theorem jz61 (N:Nat) (x:Y15):rise (Ez61) Tz61 6 N Tryz.f50 [(.slice .str)] [.bool] [false] x=nimage_areTexts (fun v=>iterR (floc (Ez61) Tz61 6 N Tryz.f50 [.bool] [false] [] 0 nowhereR) N (ez61_0 v)) x:=by kernel_rfl
theorem lz61 (N:Nat) (x:Y15):rise (Ez61) Tz61 6 N Tryz.f50 [(.slice .str)] [.bool] [false] x=mimage_areTexts N x:=(jz61 N x).trans (by rw [funext (iterR_eq ez61_0 (bz61_0 N) N)];rfl)
def cimage_areTexts (x:Y15):Option (Bool):=mimage_areTexts big x
def Gz61:Fn2:=⟨[(.slice .str)],[.bool],[false],fun x=>cimage_areTexts x⟩
theorem Lz61:Rises Tryz.prog 50 Gz61:=rises_of (E:=Ez61) ⟨tabOk,fsNil2,fun _ _ _=>rfl,mixed,inlNil,rcsNil,owsNil⟩ Tryz.func50 rfl (by decide) (by kernel_rfl) (by kernel_rfl) (by kernel_rfl) (by kernel_rfl) (fun x r _ h=>⟨Tz61,6,big,(lz61 big x).trans h⟩)
def Tz62:LT:={ live:=[],keep:=[] }
noncomputable def Ez62:Env2:={ tab:=tab,fs:=[],inl:=[] }
def nimage_isIndex (x:Int×Int):Option (Bool):=
 (bif (decide (x.1≥(0:Int))) then (some (decide (x.1 < x.2))) else (some false))
def mimage_isIndex (N:Nat) (x:Int×Int):Option (Bool):=nimage_isIndex x
theorem jz62 (N:Nat) (x:Int×Int):rise (Ez62) Tz62 6 N Tryz.f27 [Z3,Z3] [.bool] [false] x=nimage_isIndex x:=by kernel_rfl
theorem lz62 (N:Nat) (x:Int×Int):rise (Ez62) Tz62 6 N Tryz.f27 [Z3,Z3] [.bool] [false] x=mimage_isIndex N x:=(jz62 N x).trans rfl
def cimage_isIndex (x:Int×Int):Option (Bool):=mimage_isIndex big x
def Gz62:Fn2:=⟨[Z3,Z3],[.bool],[false],fun x=>cimage_isIndex x⟩
theorem Lz62:Rises Tryz.prog 27 Gz62:=rises_of (E:=Ez62) ⟨tabOk,fsNil2,fun _ _ _=>rfl,mixed,inlNil,rcsNil,owsNil⟩ Tryz.func27 rfl (by decide) (by kernel_rfl) (by kernel_rfl) (by kernel_rfl) (by kernel_rfl) (fun x r _ h=>⟨Tz62,6,big,(lz62 big x).trans h⟩)
def Tz63:LT:={ live:=[(3,[1,5,10,11,12])],keep:=[] }
def Tz64:LT:={ live:=[],keep:=[] }
noncomputable def Ez64:Env2:={ tab:=tab,fs:=[],inl:=[] }
def nimage_areSlots_1 (x:Y1):Option (Y6):=
 (some x.1)
def mimage_areSlots_1 (N:Nat) (x:Y1):Option (Y6):=nimage_areSlots_1 x
theorem jz64 (N:Nat) (x:Y1):rise (Ez64) Tz64 6 N Tryz.f153 [Z8] [.str] [false] x=nimage_areSlots_1 x:=by kernel_rfl
theorem lz64 (N:Nat) (x:Y1):rise (Ez64) Tz64 6 N Tryz.f153 [Z8] [.str] [false] x=mimage_areSlots_1 N x:=(jz64 N x).trans rfl
def cimage_areSlots_1 (x:Y1):Option (Y6):=mimage_areSlots_1 big x
def Gz64:Fn2:=⟨[Z8],[.str],[false],fun x=>cimage_areSlots_1 x⟩
theorem Lz64:Rises Tryz.prog 153 Gz64:=rises_of (E:=Ez64) ⟨tabOk,fsNil2,fun _ _ _=>rfl,mixed,inlNil,rcsNil,owsNil⟩ Tryz.func153 rfl (by decide) (by kernel_rfl) (by kernel_rfl) (by kernel_rfl) (by kernel_rfl) (fun x r _ h=>⟨Tz64,6,big,(lz64 big x).trans h⟩)
def Tz65:LT:={ live:=[(4,[0,1,10,11,12])],keep:=[(23,[])] }
noncomputable def Ez65:Env2:={ tab:=tab,fs:=[(27,Gz62),(127,Gz45),(153,Gz64)],inl:=[(152,Tryz.f152,Tz63)] }
noncomputable def ez64 (v:Y12×Int×Int×(List (Y6×Bool))):St:={ s:=[(1,(.clo 153 .unit)),(5,(.mp 0)),(10,(.val ⟨(.slice Z8),v.1⟩)),(11,(.val ⟨Z3,v.2.1⟩)),(12,(.val ⟨Z3,v.2.2.1⟩))],l:=[(0,.mp .str .bool v.2.2.2)],k:=[(4096,[])],b:=16875520 }
noncomputable def ez65_0 (v:Y12×Int×Y12×Int×Int):St:={ s:=[(0,(.val ⟨(.slice Z8),v.1⟩)),(1,(.val ⟨Z3,v.2.1⟩)),(10,(.val ⟨(.slice Z8),v.2.2.1⟩)),(11,(.val ⟨Z3,v.2.2.2.1⟩)),(12,(.val ⟨Z3,v.2.2.2.2⟩))],l:=[],k:=[],b:=4096 }
def himage_areSlots_1 (self0:Y12×Int×Y12×Int×Int→Option (Bool)) (self1:Y12×Int×Int×(List (Y6×Bool))→Option (Bool)) (v:Y12×Int×Int×(List (Y6×Bool))):Option (Bool):=
 (bif (decide (v.2.2.1 < v.2.1)) then ((getI v.1 v.2.2.1).bind fun x4=>((cimage_areSlots_1 x4).bind fun x5=>((ckinds_Named x5).bind fun x6=>(bif (!x6) then (some false) else (bif (@atK .str .bool x5 false v.2.2.2).1 then (some false) else (let x7:(List (Y6×Bool)):=(@putK .str .bool x5 true v.2.2.2);(let x8:Int:=(IntKind.i64.wrap (v.2.2.1+(1:Int)));(self1 (v.1,v.2.1,x8,x7))))))))) else (some true))
def gimage_areSlots_1 (N:Nat) (self0:Y12×Int×Y12×Int×Int→Option (Bool)) (self1:Y12×Int×Int×(List (Y6×Bool))→Option (Bool)) (v:Y12×Int×Int×(List (Y6×Bool))):Option (Bool):=himage_areSlots_1 self0 self1 v
theorem kz64 (N:Nat) (s0:St→Option (Bool)) (s1:St→Option (Bool)) (v):(floc (Ez65) Tz65 6 N Tryz.f124 [.bool] [false] [.call 9 1 152] 0 nowhereR) s1 (ez64 v)=himage_areSlots_1 (fun v=>s0 (ez65_0 v)) (fun v=>s1 (ez64 v)) v:=by kernel_rfl
theorem bz64 (N:Nat) (s0:St→Option (Bool)) (s1:St→Option (Bool)) (v):(floc (Ez65) Tz65 6 N Tryz.f124 [.bool] [false] [.call 9 1 152] 0 nowhereR) s1 (ez64 v)=gimage_areSlots_1 N (fun v=>s0 (ez65_0 v)) (fun v=>s1 (ez64 v)) v:=kz64 N s0 s1 v
def himage_areSlots_0 (loop1:Y12×Int×Int×(List (Y6×Bool))→Option (Bool)) (self0:Y12×Int×Y12×Int×Int→Option (Bool)) (v:Y12×Int×Y12×Int×Int):Option (Bool):=
 (bif (decide (v.2.2.2.2 < v.2.2.2.1)) then ((getI v.2.2.1 v.2.2.2.2).bind fun x1=>((cimage_isIndex (x1.2.1,v.2.1)).bind fun x2=>(bif (!x2) then (some false) else (let x3:Int:=(IntKind.i64.wrap (v.2.2.2.2+(1:Int)));(self0 (v.1,v.2.1,v.2.2.1,v.2.2.2.1,x3)))))) else (loop1 (v.1,(List.length v.1:Int),(0:Int),([]:List (Y6×Bool)))))
def gimage_areSlots_0 (N:Nat) (self0:Y12×Int×Y12×Int×Int→Option (Bool)) (v:Y12×Int×Y12×Int×Int):Option (Bool):=himage_areSlots_0 (iterV (gimage_areSlots_1 N self0) N) self0 v
theorem kz65_0 (N:Nat) (s0:St→Option (Bool)) (v):(floc (Ez65) Tz65 6 N Tryz.f124 [.bool] [false] [] 0 nowhereR) s0 (ez65_0 v)=himage_areSlots_0 (fun v=>iterR (floc (Ez65) Tz65 6 N Tryz.f124 [.bool] [false] [.call 9 1 152] 0 nowhereR) N (ez64 v)) (fun v=>s0 (ez65_0 v)) v:=by kernel_rfl
theorem bz65_0 (N:Nat) (s0:St→Option (Bool)) (v):(floc (Ez65) Tz65 6 N Tryz.f124 [.bool] [false] [] 0 nowhereR) s0 (ez65_0 v)=gimage_areSlots_0 N (fun v=>s0 (ez65_0 v)) v:=(kz65_0 N s0 v).trans (by rw [funext (iterR_eq ez64 (bz64 N s0) N)];rfl)
def nimage_areSlots (loop0:Y12×Int×Y12×Int×Int→Option (Bool)) (x:Y12×Int):Option (Bool):=
 (bif (decide ((List.length x.1:Int) > (16:Int))) then (some false) else (loop0 (x.1,x.2,x.1,(List.length x.1:Int),(0:Int))))
def mimage_areSlots (N:Nat) (x:Y12×Int):Option (Bool):=nimage_areSlots (iterV (gimage_areSlots_0 N) N) x
theorem jz65 (N:Nat) (x:Y12×Int):rise (Ez65) Tz65 6 N Tryz.f124 [(.slice Z8),Z3] [.bool] [false] x=nimage_areSlots (fun v=>iterR (floc (Ez65) Tz65 6 N Tryz.f124 [.bool] [false] [] 0 nowhereR) N (ez65_0 v)) x:=by kernel_rfl
theorem lz65 (N:Nat) (x:Y12×Int):rise (Ez65) Tz65 6 N Tryz.f124 [(.slice Z8),Z3] [.bool] [false] x=mimage_areSlots N x:=(jz65 N x).trans (by rw [funext (iterR_eq ez65_0 (bz65_0 N) N)];rfl)
def cimage_areSlots (x:Y12×Int):Option (Bool):=mimage_areSlots big x
def Gz65:Fn2:=⟨[(.slice Z8),Z3],[.bool],[false],fun x=>cimage_areSlots x⟩
theorem Lz65:Rises Tryz.prog 124 Gz65:=rises_of (E:=Ez65) ⟨tabOk,(fsCons2 Lz62 (fsCons2 Lz45 (fsCons2 Lz64 fsNil2))),fun _ _ _=>rfl,mixed,(inlCons (inlB_of Tryz.func152 rfl rfl (by kernel_rfl)) inlNil),rcsNil,owsNil⟩ Tryz.func124 rfl (by decide) (by kernel_rfl) (by kernel_rfl) (by kernel_rfl) (by kernel_rfl) (fun x r _ h=>⟨Tz65,6,big,(lz65 big x).trans h⟩)
def Tz66:LT:={ live:=[(4,[13,14,15])],keep:=[] }
noncomputable def Ez66:Env2:={ tab:=tab,fs:=[(145,Gz30)],inl:=[] }
noncomputable def ez66_0 (v:Y17×Int×Int):St:={ s:=[(13,(.val ⟨(.slice Z5),v.1⟩)),(14,(.val ⟨Z3,v.2.1⟩)),(15,(.val ⟨Z3,v.2.2⟩))],l:=[],k:=[],b:=4096 }
def himage_isCode_0 (self0:Y17×Int×Int→Option (Bool)) (v:Y17×Int×Int):Option (Bool):=
 (bif (decide (v.2.2 < v.2.1)) then ((getI v.1 v.2.2).bind fun x1=>((cops_Check x1).bind fun x2=>(bif (x2 != (0:Int)) then (some false) else (let x3:Int:=(IntKind.i64.wrap (v.2.2+(1:Int)));(self0 (v.1,v.2.1,x3)))))) else (some true))
def gimage_isCode_0 (N:Nat) (self0:Y17×Int×Int→Option (Bool)) (v:Y17×Int×Int):Option (Bool):=himage_isCode_0 self0 v
theorem kz66_0 (N:Nat) (s0:St→Option (Bool)) (v):(floc (Ez66) Tz66 6 N Tryz.f125 [.bool] [false] [] 0 nowhereR) s0 (ez66_0 v)=himage_isCode_0 (fun v=>s0 (ez66_0 v)) v:=by kernel_rfl
theorem bz66_0 (N:Nat) (s0:St→Option (Bool)) (v):(floc (Ez66) Tz66 6 N Tryz.f125 [.bool] [false] [] 0 nowhereR) s0 (ez66_0 v)=gimage_isCode_0 N (fun v=>s0 (ez66_0 v)) v:=kz66_0 N s0 v
def nimage_isCode (loop0:Y17×Int×Int→Option (Bool)) (x:Y17):Option (Bool):=
 (bif (decide ((List.length x:Int) < (1:Int))) then (some false) else (bif (decide ((List.length x:Int) > (200:Int))) then (some false) else (loop0 (x,(List.length x:Int),(0:Int)))))
def mimage_isCode (N:Nat) (x:Y17):Option (Bool):=nimage_isCode (iterV (gimage_isCode_0 N) N) x
theorem jz66 (N:Nat) (x:Y17):rise (Ez66) Tz66 6 N Tryz.f125 [(.slice Z5)] [.bool] [false] x=nimage_isCode (fun v=>iterR (floc (Ez66) Tz66 6 N Tryz.f125 [.bool] [false] [] 0 nowhereR) N (ez66_0 v)) x:=by kernel_rfl
theorem lz66 (N:Nat) (x:Y17):rise (Ez66) Tz66 6 N Tryz.f125 [(.slice Z5)] [.bool] [false] x=mimage_isCode N x:=(jz66 N x).trans (by rw [funext (iterR_eq ez66_0 (bz66_0 N) N)];rfl)
def cimage_isCode (x:Y17):Option (Bool):=mimage_isCode big x
def Gz66:Fn2:=⟨[(.slice Z5)],[.bool],[false],fun x=>cimage_isCode x⟩
theorem Lz66:Rises Tryz.prog 125 Gz66:=rises_of (E:=Ez66) ⟨tabOk,(fsCons2 Lz30 fsNil2),fun _ _ _=>rfl,mixed,inlNil,rcsNil,owsNil⟩ Tryz.func125 rfl (by decide) (by kernel_rfl) (by kernel_rfl) (by kernel_rfl) (by kernel_rfl) (fun x r _ h=>⟨Tz66,6,big,(lz66 big x).trans h⟩)
def Tz67:LT:={ live:=[],keep:=[] }
noncomputable def Ez67:Env2:={ tab:=tab,fs:=[(27,Gz62),(124,Gz65),(125,Gz66),(126,Gz37)],inl:=[] }
def nimage_isFunc (x:Y0×Int):Option (Bool):=
 ((cimage_areSlots (x.1.2.2.2.1,x.2)).bind fun x1=>(bif (!x1) then (some false) else (bif (decide (x.1.2.1 < (0:Int))) then (some false) else (bif (decide (x.1.2.1 > (List.length x.1.2.2.2.1:Int))) then (some false) else (bif (x.1.2.2.1 != (-1:Int)) then ((cimage_isIndex (x.1.2.2.1,x.2)).bind fun x2=>(bif (!x2) then (some false) else ((cimage_isCode x.1.2.2.2.2.1).bind fun x3=>(bif x3 then ((ctables_Check (x.1.2.2.2.2.2.1,(List.length x.1.2.2.2.2.1:Int))).bind fun x4=>(bif (x4==(0:Int)) then ((ctables_Check (x.1.2.2.2.2.2.2.1,(List.length x.1.2.2.2.2.1:Int))).bind fun x5=>(some (x5==(0:Int)))) else (some false))) else (some false))))) else ((cimage_isCode x.1.2.2.2.2.1).bind fun x6=>(bif x6 then ((ctables_Check (x.1.2.2.2.2.2.1,(List.length x.1.2.2.2.2.1:Int))).bind fun x7=>(bif (x7==(0:Int)) then ((ctables_Check (x.1.2.2.2.2.2.2.1,(List.length x.1.2.2.2.2.1:Int))).bind fun x8=>(some (x8==(0:Int)))) else (some false))) else (some false))))))))
def mimage_isFunc (N:Nat) (x:Y0×Int):Option (Bool):=nimage_isFunc x
theorem jz67 (N:Nat) (x:Y0×Int):rise (Ez67) Tz67 6 N Tryz.f89 [Z0,Z3] [.bool] [false] x=nimage_isFunc x:=by kernel_rfl
theorem lz67 (N:Nat) (x:Y0×Int):rise (Ez67) Tz67 6 N Tryz.f89 [Z0,Z3] [.bool] [false] x=mimage_isFunc N x:=(jz67 N x).trans rfl
def cimage_isFunc (x:Y0×Int):Option (Bool):=mimage_isFunc big x
def Gz67:Fn2:=⟨[Z0,Z3],[.bool],[false],fun x=>cimage_isFunc x⟩
theorem Lz67:Rises Tryz.prog 89 Gz67:=rises_of (E:=Ez67) ⟨tabOk,(fsCons2 Lz62 (fsCons2 Lz65 (fsCons2 Lz66 (fsCons2 Lz37 fsNil2)))),fun _ _ _=>rfl,mixed,inlNil,rcsNil,owsNil⟩ Tryz.func89 rfl (by decide) (by kernel_rfl) (by kernel_rfl) (by kernel_rfl) (by kernel_rfl) (fun x r _ h=>⟨Tz67,6,big,(lz67 big x).trans h⟩)
def Tz68:LT:={ live:=[(3,[1,5,10,11,12])],keep:=[] }
def Tz69:LT:={ live:=[],keep:=[] }
noncomputable def Ez69:Env2:={ tab:=tab,fs:=[],inl:=[] }
def nimage_areFuncs_1 (x:Y0):Option (Y6):=
 (some x.1)
def mimage_areFuncs_1 (N:Nat) (x:Y0):Option (Y6):=nimage_areFuncs_1 x
theorem jz69 (N:Nat) (x:Y0):rise (Ez69) Tz69 6 N Tryz.f91 [Z0] [.str] [false] x=nimage_areFuncs_1 x:=by kernel_rfl
theorem lz69 (N:Nat) (x:Y0):rise (Ez69) Tz69 6 N Tryz.f91 [Z0] [.str] [false] x=mimage_areFuncs_1 N x:=(jz69 N x).trans rfl
def cimage_areFuncs_1 (x:Y0):Option (Y6):=mimage_areFuncs_1 big x
def Gz69:Fn2:=⟨[Z0],[.str],[false],fun x=>cimage_areFuncs_1 x⟩
theorem Lz69:Rises Tryz.prog 91 Gz69:=rises_of (E:=Ez69) ⟨tabOk,fsNil2,fun _ _ _=>rfl,mixed,inlNil,rcsNil,owsNil⟩ Tryz.func91 rfl (by decide) (by kernel_rfl) (by kernel_rfl) (by kernel_rfl) (by kernel_rfl) (fun x r _ h=>⟨Tz69,6,big,(lz69 big x).trans h⟩)
def Tz70:LT:={ live:=[(4,[0,1,15,16,17])],keep:=[(27,[])] }
noncomputable def Ez70:Env2:={ tab:=tab,fs:=[(89,Gz67),(91,Gz69),(127,Gz45)],inl:=[(90,Tryz.f90,Tz68)] }
noncomputable def ez69 (v:Y14×Int×Int×(List (Y6×Bool))):St:={ s:=[(1,(.clo 91 .unit)),(5,(.mp 0)),(10,(.val ⟨(.slice Z0),v.1⟩)),(11,(.val ⟨Z3,v.2.1⟩)),(12,(.val ⟨Z3,v.2.2.1⟩))],l:=[(0,.mp .str .bool v.2.2.2)],k:=[(4096,[])],b:=16891904 }
noncomputable def ez70_0 (v:Y14×Int×Y14×Int×Int):St:={ s:=[(0,(.val ⟨(.slice Z0),v.1⟩)),(1,(.val ⟨Z3,v.2.1⟩)),(15,(.val ⟨(.slice Z0),v.2.2.1⟩)),(16,(.val ⟨Z3,v.2.2.2.1⟩)),(17,(.val ⟨Z3,v.2.2.2.2⟩))],l:=[],k:=[],b:=4096 }
def himage_areFuncs_1 (self0:Y14×Int×Y14×Int×Int→Option (Bool)) (self1:Y14×Int×Int×(List (Y6×Bool))→Option (Bool)) (v:Y14×Int×Int×(List (Y6×Bool))):Option (Bool):=
 (bif (decide (v.2.2.1 < v.2.1)) then ((getI v.1 v.2.2.1).bind fun x4=>((cimage_areFuncs_1 x4).bind fun x5=>((ckinds_Named x5).bind fun x6=>(bif (!x6) then (some false) else (bif (@atK .str .bool x5 false v.2.2.2).1 then (some false) else (let x7:(List (Y6×Bool)):=(@putK .str .bool x5 true v.2.2.2);(let x8:Int:=(IntKind.i64.wrap (v.2.2.1+(1:Int)));(self1 (v.1,v.2.1,x8,x7))))))))) else (some true))
def gimage_areFuncs_1 (N:Nat) (self0:Y14×Int×Y14×Int×Int→Option (Bool)) (self1:Y14×Int×Int×(List (Y6×Bool))→Option (Bool)) (v:Y14×Int×Int×(List (Y6×Bool))):Option (Bool):=himage_areFuncs_1 self0 self1 v
theorem kz69 (N:Nat) (s0:St→Option (Bool)) (s1:St→Option (Bool)) (v):(floc (Ez70) Tz70 6 N Tryz.f51 [.bool] [false] [.call 9 1 90] 0 nowhereR) s1 (ez69 v)=himage_areFuncs_1 (fun v=>s0 (ez70_0 v)) (fun v=>s1 (ez69 v)) v:=by kernel_rfl
theorem bz69 (N:Nat) (s0:St→Option (Bool)) (s1:St→Option (Bool)) (v):(floc (Ez70) Tz70 6 N Tryz.f51 [.bool] [false] [.call 9 1 90] 0 nowhereR) s1 (ez69 v)=gimage_areFuncs_1 N (fun v=>s0 (ez70_0 v)) (fun v=>s1 (ez69 v)) v:=kz69 N s0 s1 v
def himage_areFuncs_0 (loop1:Y14×Int×Int×(List (Y6×Bool))→Option (Bool)) (self0:Y14×Int×Y14×Int×Int→Option (Bool)) (v:Y14×Int×Y14×Int×Int):Option (Bool):=
 (bif (decide (v.2.2.2.2 < v.2.2.2.1)) then ((getI v.2.2.1 v.2.2.2.2).bind fun x1=>((cimage_isFunc (x1,v.2.1)).bind fun x2=>(bif (!x2) then (some false) else (let x3:Int:=(IntKind.i64.wrap (v.2.2.2.2+(1:Int)));(self0 (v.1,v.2.1,v.2.2.1,v.2.2.2.1,x3)))))) else (loop1 (v.1,(List.length v.1:Int),(0:Int),([]:List (Y6×Bool)))))
def gimage_areFuncs_0 (N:Nat) (self0:Y14×Int×Y14×Int×Int→Option (Bool)) (v:Y14×Int×Y14×Int×Int):Option (Bool):=himage_areFuncs_0 (iterV (gimage_areFuncs_1 N self0) N) self0 v
theorem kz70_0 (N:Nat) (s0:St→Option (Bool)) (v):(floc (Ez70) Tz70 6 N Tryz.f51 [.bool] [false] [] 0 nowhereR) s0 (ez70_0 v)=himage_areFuncs_0 (fun v=>iterR (floc (Ez70) Tz70 6 N Tryz.f51 [.bool] [false] [.call 9 1 90] 0 nowhereR) N (ez69 v)) (fun v=>s0 (ez70_0 v)) v:=by kernel_rfl
theorem bz70_0 (N:Nat) (s0:St→Option (Bool)) (v):(floc (Ez70) Tz70 6 N Tryz.f51 [.bool] [false] [] 0 nowhereR) s0 (ez70_0 v)=gimage_areFuncs_0 N (fun v=>s0 (ez70_0 v)) v:=(kz70_0 N s0 v).trans (by rw [funext (iterR_eq ez69 (bz69 N s0) N)];rfl)
def nimage_areFuncs (loop0:Y14×Int×Y14×Int×Int→Option (Bool)) (x:Y14×Int):Option (Bool):=
 (bif (decide ((List.length x.1:Int) < (1:Int))) then (some false) else (bif (decide ((List.length x.1:Int) > (32:Int))) then (some false) else (loop0 (x.1,x.2,x.1,(List.length x.1:Int),(0:Int)))))
def mimage_areFuncs (N:Nat) (x:Y14×Int):Option (Bool):=nimage_areFuncs (iterV (gimage_areFuncs_0 N) N) x
theorem jz70 (N:Nat) (x:Y14×Int):rise (Ez70) Tz70 6 N Tryz.f51 [(.slice Z0),Z3] [.bool] [false] x=nimage_areFuncs (fun v=>iterR (floc (Ez70) Tz70 6 N Tryz.f51 [.bool] [false] [] 0 nowhereR) N (ez70_0 v)) x:=by kernel_rfl
theorem lz70 (N:Nat) (x:Y14×Int):rise (Ez70) Tz70 6 N Tryz.f51 [(.slice Z0),Z3] [.bool] [false] x=mimage_areFuncs N x:=(jz70 N x).trans (by rw [funext (iterR_eq ez70_0 (bz70_0 N) N)];rfl)
def cimage_areFuncs (x:Y14×Int):Option (Bool):=mimage_areFuncs big x
def Gz70:Fn2:=⟨[(.slice Z0),Z3],[.bool],[false],fun x=>cimage_areFuncs x⟩
theorem Lz70:Rises Tryz.prog 51 Gz70:=rises_of (E:=Ez70) ⟨tabOk,(fsCons2 Lz67 (fsCons2 Lz69 (fsCons2 Lz45 fsNil2))),fun _ _ _=>rfl,mixed,(inlCons (inlB_of Tryz.func90 rfl rfl (by kernel_rfl)) inlNil),rcsNil,owsNil⟩ Tryz.func51 rfl (by decide) (by kernel_rfl) (by kernel_rfl) (by kernel_rfl) (by kernel_rfl) (fun x r _ h=>⟨Tz70,6,big,(lz70 big x).trans h⟩)
def Tz71:LT:={ live:=[],keep:=[] }
noncomputable def Ez71:Env2:={ tab:=tab,fs:=[(49,Gz60),(50,Gz61),(51,Gz70)],inl:=[] }
def nimage_isValid (x:Y4):Option (Bool):=
 ((cimage_areTypes x.1).bind fun x1=>(bif x1 then ((cimage_areTexts x.2.1).bind fun x2=>(bif x2 then ((cimage_areFuncs (x.2.2.1,(List.length x.1:Int))).bind fun x3=>(some x3)) else (some false))) else (some false)))
def mimage_isValid (N:Nat) (x:Y4):Option (Bool):=nimage_isValid x
theorem jz71 (N:Nat) (x:Y4):rise (Ez71) Tz71 6 N Tryz.f29 [Z4] [.bool] [false] x=nimage_isValid x:=by kernel_rfl
theorem lz71 (N:Nat) (x:Y4):rise (Ez71) Tz71 6 N Tryz.f29 [Z4] [.bool] [false] x=mimage_isValid N x:=(jz71 N x).trans rfl
def cimage_isValid (x:Y4):Option (Bool):=mimage_isValid big x
def Gz71:Fn2:=⟨[Z4],[.bool],[false],fun x=>cimage_isValid x⟩
theorem Lz71:Rises Tryz.prog 29 Gz71:=rises_of (E:=Ez71) ⟨tabOk,(fsCons2 Lz60 (fsCons2 Lz61 (fsCons2 Lz70 fsNil2))),fun _ _ _=>rfl,mixed,inlNil,rcsNil,owsNil⟩ Tryz.func29 rfl (by decide) (by kernel_rfl) (by kernel_rfl) (by kernel_rfl) (by kernel_rfl) (fun x r _ h=>⟨Tz71,6,big,(lz71 big x).trans h⟩)
def Tz72:LT:={ live:=[],keep:=[(13,[0,2,4])] }
@[reducible] def Pz7 (me:Y13→Y9→Option Y19):RecC:=⟨[.fix (.loc 0 []),.hole Z3],[.var Z7 (.hole Z7)],0,[Z3],me⟩
noncomputable def Ez7 (me:Y13→Y9→Option Y19):Env2:={ tab:=tab,fs:=[(116,Gz5)],inl:=[(117,Tryz.f117,Tz6)],rcs:=[(78,Pz7 me)] }
def nimage_reader_number (me:Y13→Y9→Option Y19) (y:Y9) (x:Y13):Option Y19:=
 ((cwire_Unvary (y.1.1,(IntKind.u64.wrap x.2.1))).bind fun x1=>(bif (x1.1,y.1.2).2.1 then (let x2:Y3:=((x1.1,y.1.2).1,(true,(x1.1,y.1.2).2.2));(let x3:Int:=(IntKind.i64.wrap x1.2.1);(some (x2,x3)))) else (let x4:Y3:=((x1.1,y.1.2).1,((x1.2.2 != (0:Int)),(x1.1,y.1.2).2.2));(let x5:Int:=(IntKind.i64.wrap x1.2.1);(some (x4,x5))))))
def mimage_reader_number (me:Y13→Y9→Option Y19) (y:Y9) (N:Nat) (x:Y13):Option Y19:=nimage_reader_number me y x
theorem jz7 (me:Y13→Y9→Option Y19) (y:Y9) (N:Nat) (x:Y13):riseR (Ez7 me) Tz7 6 N Tryz.f78 (Pz7 me) x y=nimage_reader_number me y x:=by kernel_rfl
theorem lz7 (me:Y13→Y9→Option Y19) (y:Y9) (N:Nat) (x:Y13):riseR (Ez7 me) Tz7 6 N Tryz.f78 (Pz7 me) x y=mimage_reader_number me y N x:=(jz7 me y N x).trans rfl
def rimage_reader_number:Nat→Y13→Y9→Option Y19
 | 0,_,_=>none
 | k+1,x,y=>mimage_reader_number (rimage_reader_number k) y big x
def cimage_reader_number (x:Y13) (y:Y9):Option Y19:=rimage_reader_number big x y
@[reducible] def Cz7:RecC:=Pz7 cimage_reader_number
theorem Rz7:∀ k,RecOk Tryz.prog 78 (Pz7 (rimage_reader_number k))
 | 0=>rec_none Tryz.func78 rfl (by decide)
 | k+1=>by
  have ih:=Rz7 k
  exact rec_of (E:=Ez7 (rimage_reader_number k)) ⟨tabOk,(fsCons2 Lz5 fsNil2),fun _ _ _=>rfl,mixed,(inlCons (inlB_of Tryz.func117 rfl rfl (by kernel_rfl)) inlNil),rcsCons ih rcsNil,owsNil⟩ Tryz.func78 rfl (by decide) (by kernel_rfl) (by kernel_rfl) (by kernel_rfl) (fun x y r h=>⟨Tz7,6,big,(lz7 (rimage_reader_number k) y big x).trans h⟩)
theorem Lz7:RecOk Tryz.prog 78 Cz7:=Rz7 big
@[reducible] def Pz11 (me:Y10→Y9→Option Y19):RecC:=⟨[.fix (.loc 0 [])],[.var Z7 (.hole Z7)],0,[Z13],me⟩
noncomputable def Ez11 (me:Y10→Y9→Option Y19):Env2:={ tab:=tab,fs:=[(118,Gz10)],inl:=[(117,Tryz.f117,Tz6)],rcs:=[(79,Pz11 me)] }
def nimage_reader_kind (me:Y10→Y9→Option Y19) (y:Y9) (x:Y10):Option Y19:=
 ((cwire_Unfixed (y.1.1,(1:Int))).bind fun x1=>(bif (x1.1,y.1.2).2.1 then (let x2:Y3:=((x1.1,y.1.2).1,(true,(x1.1,y.1.2).2.2));(some (x2,(IntKind.u8.wrap x1.2.1)))) else (let x3:Y3:=((x1.1,y.1.2).1,((x1.2.2 != (0:Int)),(x1.1,y.1.2).2.2));(some (x3,(IntKind.u8.wrap x1.2.1))))))
def mimage_reader_kind (me:Y10→Y9→Option Y19) (y:Y9) (N:Nat) (x:Y10):Option Y19:=nimage_reader_kind me y x
theorem jz11 (me:Y10→Y9→Option Y19) (y:Y9) (N:Nat) (x:Y10):riseR (Ez11 me) Tz11 6 N Tryz.f79 (Pz11 me) x y=nimage_reader_kind me y x:=by kernel_rfl
theorem lz11 (me:Y10→Y9→Option Y19) (y:Y9) (N:Nat) (x:Y10):riseR (Ez11 me) Tz11 6 N Tryz.f79 (Pz11 me) x y=mimage_reader_kind me y N x:=(jz11 me y N x).trans rfl
def rimage_reader_kind:Nat→Y10→Y9→Option Y19
 | 0,_,_=>none
 | k+1,x,y=>mimage_reader_kind (rimage_reader_kind k) y big x
def cimage_reader_kind (x:Y10) (y:Y9):Option Y19:=rimage_reader_kind big x y
@[reducible] def Cz11:RecC:=Pz11 cimage_reader_kind
theorem Rz11:∀ k,RecOk Tryz.prog 79 (Pz11 (rimage_reader_kind k))
 | 0=>rec_none Tryz.func79 rfl (by decide)
 | k+1=>by
  have ih:=Rz11 k
  exact rec_of (E:=Ez11 (rimage_reader_kind k)) ⟨tabOk,(fsCons2 Lz10 fsNil2),fun _ _ _=>rfl,mixed,(inlCons (inlB_of Tryz.func117 rfl rfl (by kernel_rfl)) inlNil),rcsCons ih rcsNil,owsNil⟩ Tryz.func79 rfl (by decide) (by kernel_rfl) (by kernel_rfl) (by kernel_rfl) (fun x y r h=>⟨Tz11,6,big,(lz11 (rimage_reader_kind k) y big x).trans h⟩)
theorem Lz11:RecOk Tryz.prog 79 Cz11:=Rz11 big
@[reducible] def Pz14 (me:Y13→Y9→Option (Y3×Y6)):RecC:=⟨[.fix (.loc 0 []),.hole Z3],[.var Z7 (.hole Z7)],0,[.str],me⟩
noncomputable def Ez14 (me:Y13→Y9→Option (Y3×Y6)):Env2:={ tab:=tab,fs:=[(119,Gz13)],inl:=[(117,Tryz.f117,Tz6)],rcs:=[(82,Pz14 me)] }
def nimage_reader_upTo (me:Y13→Y9→Option (Y3×Y6)) (y:Y9) (x:Y13):Option (Y3×Y6):=
 ((cwire_Untext (y.1.1,x.2.1)).bind fun x1=>(bif (x1.1,y.1.2).2.1 then (let x2:Y3:=((x1.1,y.1.2).1,(true,(x1.1,y.1.2).2.2));(some (x2,x1.2.1))) else (let x3:Y3:=((x1.1,y.1.2).1,((x1.2.2 != (0:Int)),(x1.1,y.1.2).2.2));(some (x3,x1.2.1)))))
def mimage_reader_upTo (me:Y13→Y9→Option (Y3×Y6)) (y:Y9) (N:Nat) (x:Y13):Option (Y3×Y6):=nimage_reader_upTo me y x
theorem jz14 (me:Y13→Y9→Option (Y3×Y6)) (y:Y9) (N:Nat) (x:Y13):riseR (Ez14 me) Tz14 6 N Tryz.f82 (Pz14 me) x y=nimage_reader_upTo me y x:=by kernel_rfl
theorem lz14 (me:Y13→Y9→Option (Y3×Y6)) (y:Y9) (N:Nat) (x:Y13):riseR (Ez14 me) Tz14 6 N Tryz.f82 (Pz14 me) x y=mimage_reader_upTo me y N x:=(jz14 me y N x).trans rfl
def rimage_reader_upTo:Nat→Y13→Y9→Option (Y3×Y6)
 | 0,_,_=>none
 | k+1,x,y=>mimage_reader_upTo (rimage_reader_upTo k) y big x
def cimage_reader_upTo (x:Y13) (y:Y9):Option (Y3×Y6):=rimage_reader_upTo big x y
@[reducible] def Cz14:RecC:=Pz14 cimage_reader_upTo
theorem Rz14:∀ k,RecOk Tryz.prog 82 (Pz14 (rimage_reader_upTo k))
 | 0=>rec_none Tryz.func82 rfl (by decide)
 | k+1=>by
  have ih:=Rz14 k
  exact rec_of (E:=Ez14 (rimage_reader_upTo k)) ⟨tabOk,(fsCons2 Lz13 fsNil2),fun _ _ _=>rfl,mixed,(inlCons (inlB_of Tryz.func117 rfl rfl (by kernel_rfl)) inlNil),rcsCons ih rcsNil,owsNil⟩ Tryz.func82 rfl (by decide) (by kernel_rfl) (by kernel_rfl) (by kernel_rfl) (fun x y r h=>⟨Tz14,6,big,(lz14 (rimage_reader_upTo k) y big x).trans h⟩)
theorem Lz14:RecOk Tryz.prog 82 Cz14:=Rz14 big
@[reducible] def Pz15 (me:Y10→Y9→Option (Y3×Y6)):RecC:=⟨[.fix (.loc 0 [])],[.var Z7 (.hole Z7)],0,[.str],me⟩
noncomputable def Ez15 (me:Y10→Y9→Option (Y3×Y6)):Env2:={ tab:=tab,fs:=[],inl:=[],rcs:=[(82,Cz14),(83,Pz15 me)] }
def nimage_reader_name (me:Y10→Y9→Option (Y3×Y6)) (y:Y9) (x:Y10):Option (Y3×Y6):=
 ((cimage_reader_upTo ((),((16:Int),())) (y.1,())).bind fun x1=>(some (x1.1,x1.2)))
def mimage_reader_name (me:Y10→Y9→Option (Y3×Y6)) (y:Y9) (N:Nat) (x:Y10):Option (Y3×Y6):=nimage_reader_name me y x
theorem jz15 (me:Y10→Y9→Option (Y3×Y6)) (y:Y9) (N:Nat) (x:Y10):riseR (Ez15 me) Tz15 6 N Tryz.f83 (Pz15 me) x y=nimage_reader_name me y x:=by kernel_rfl
theorem lz15 (me:Y10→Y9→Option (Y3×Y6)) (y:Y9) (N:Nat) (x:Y10):riseR (Ez15 me) Tz15 6 N Tryz.f83 (Pz15 me) x y=mimage_reader_name me y N x:=(jz15 me y N x).trans rfl
def rimage_reader_name:Nat→Y10→Y9→Option (Y3×Y6)
 | 0,_,_=>none
 | k+1,x,y=>mimage_reader_name (rimage_reader_name k) y big x
def cimage_reader_name (x:Y10) (y:Y9):Option (Y3×Y6):=rimage_reader_name big x y
@[reducible] def Cz15:RecC:=Pz15 cimage_reader_name
theorem Rz15:∀ k,RecOk Tryz.prog 83 (Pz15 (rimage_reader_name k))
 | 0=>rec_none Tryz.func83 rfl (by decide)
 | k+1=>by
  have ih:=Rz15 k
  exact rec_of (E:=Ez15 (rimage_reader_name k)) ⟨tabOk,fsNil2,fun _ _ _=>rfl,mixed,inlNil,rcsCons Lz14 (rcsCons ih rcsNil),owsNil⟩ Tryz.func83 rfl (by decide) (by kernel_rfl) (by kernel_rfl) (by kernel_rfl) (fun x y r h=>⟨Tz15,6,big,(lz15 (rimage_reader_name k) y big x).trans h⟩)
theorem Lz15:RecOk Tryz.prog 83 Cz15:=Rz15 big
@[reducible] def Pz16 (me:Y10→Y9→Option (Y3×Y1)):RecC:=⟨[.fix (.loc 0 [])],[.var Z7 (.hole Z7)],0,[Z8],me⟩
noncomputable def Ez16 (me:Y10→Y9→Option (Y3×Y1)):Env2:={ tab:=tab,fs:=[],inl:=[],rcs:=[(78,Cz7),(83,Cz15),(81,Pz16 me)] }
def nimage_reader_field (me:Y10→Y9→Option (Y3×Y1)) (y:Y9) (x:Y10):Option (Y3×Y1):=
 ((cimage_reader_name ((),()) (y.1,())).bind fun x1=>(let x2:Y1:=(x1.2,(([]:List Int),((0:Int),())).2);((cimage_reader_number ((),((32:Int),())) (x1.1,())).bind fun x3=>(some (x3.1,(x2.1,(x3.2,x2.2.2)))))))
def mimage_reader_field (me:Y10→Y9→Option (Y3×Y1)) (y:Y9) (N:Nat) (x:Y10):Option (Y3×Y1):=nimage_reader_field me y x
theorem jz16 (me:Y10→Y9→Option (Y3×Y1)) (y:Y9) (N:Nat) (x:Y10):riseR (Ez16 me) Tz16 6 N Tryz.f81 (Pz16 me) x y=nimage_reader_field me y x:=by kernel_rfl
theorem lz16 (me:Y10→Y9→Option (Y3×Y1)) (y:Y9) (N:Nat) (x:Y10):riseR (Ez16 me) Tz16 6 N Tryz.f81 (Pz16 me) x y=mimage_reader_field me y N x:=(jz16 me y N x).trans rfl
def rimage_reader_field:Nat→Y10→Y9→Option (Y3×Y1)
 | 0,_,_=>none
 | k+1,x,y=>mimage_reader_field (rimage_reader_field k) y big x
def cimage_reader_field (x:Y10) (y:Y9):Option (Y3×Y1):=rimage_reader_field big x y
@[reducible] def Cz16:RecC:=Pz16 cimage_reader_field
theorem Rz16:∀ k,RecOk Tryz.prog 81 (Pz16 (rimage_reader_field k))
 | 0=>rec_none Tryz.func81 rfl (by decide)
 | k+1=>by
  have ih:=Rz16 k
  exact rec_of (E:=Ez16 (rimage_reader_field k)) ⟨tabOk,fsNil2,fun _ _ _=>rfl,mixed,inlNil,rcsCons Lz7 (rcsCons Lz15 (rcsCons ih rcsNil)),owsNil⟩ Tryz.func81 rfl (by decide) (by kernel_rfl) (by kernel_rfl) (by kernel_rfl) (fun x y r h=>⟨Tz16,6,big,(lz16 (rimage_reader_field k) y big x).trans h⟩)
theorem Lz16:RecOk Tryz.prog 81 Cz16:=Rz16 big
@[reducible] def Pz17 (me:Y10→Y9→Option (Y3×Y7)):RecC:=⟨[.fix (.loc 0 [])],[.var Z7 (.hole Z7)],0,[Z1],me⟩
noncomputable def Ez17 (me:Y10→Y9→Option (Y3×Y7)) (mk:(α:Type)→Nat→α→List α):Env2:={ tab:=tab,fs:=[],inl:=[(80,Tryz.f80,Tz12)],rep:=mk,rcs:=[(78,Cz7),(79,Cz11),(81,Cz16),(44,Pz17 me)] }
noncomputable def ez17_0 (v:Y29):St:={ s:=[(0,(.loc 0 [])),(2,(.clo 81 .unit)),(7,(.row 1)),(14,(.val ⟨Z3,v.1⟩)),(15,(.val ⟨Z3,v.2.1⟩))],l:=[(0,.var Z7 (.val ⟨Z7,v.2.2.1⟩)),(1,.row Z8 v.2.2.2.1),(2,.var Z1 (.pair (.val ⟨Z13,v.2.2.2.2.1⟩) (.pair (.val ⟨Z3,v.2.2.2.2.2.1⟩) (.pair (.val ⟨Z3,v.2.2.2.2.2.2.1⟩) (.pair (.row 3) (.val ⟨.unit,v.2.2.2.2.2.2.2.1⟩)))))),(3,.row Z8 v.2.2.2.2.2.2.2.2.1),(4,.var Z1 (.val ⟨Z1,v.2.2.2.2.2.2.2.2.2⟩))],k:=[(4096,[(2,(.loc 2 [])),(3,(.loc 4 []))]),(0,[(0,(.loc 0 []))])],b:=16887808 }
def himage_reader_typeOfTable_0 (me:Y10→Y9→Option (Y3×Y7)) (y:Y9) (mk:(α:Type)→Nat→α→List α) (self0:Y29→Option (Y3×Y7)) (v:Y29):Option (Y3×Y7):=
 (bif (decide (v.2.1 < v.1)) then ((cimage_reader_field ((),()) (v.2.2.1,())).bind fun x9=>(bif (decide (0≤v.2.1)&&decide (v.2.1 < (List.length v.2.2.2.1:Int))) then (let x10:Y12:=(List.set v.2.2.2.1 (Int.toNat v.2.1) x9.2);(let x11:Int:=(IntKind.i64.wrap (v.2.1+(1:Int)));(self0 (v.1,x11,x9.1,x10,v.2.2.2.2.1,v.2.2.2.2.2.1,v.2.2.2.2.2.2.1,v.2.2.2.2.2.2.2.1,v.2.2.2.2.2.2.2.2.1,v.2.2.2.2.2.2.2.2.2)))) else none)) else (some (v.2.2.1,(v.2.2.2.2.2.2.2.2.2.1,(v.2.2.2.2.2.2.2.2.2.2.1,(v.2.2.2.2.2.2.2.2.2.2.2.1,(v.2.2.2.1,v.2.2.2.2.2.2.2.2.2.2.2.2.2)))))))
def gimage_reader_typeOfTable_0 (me:Y10→Y9→Option (Y3×Y7)) (y:Y9) (mk:(α:Type)→Nat→α→List α) (N:Nat) (self0:Y29→Option (Y3×Y7)) (v:Y29):Option (Y3×Y7):=himage_reader_typeOfTable_0 me y mk self0 v
theorem kz17_0 (me:Y10→Y9→Option (Y3×Y7)) (y:Y9) (mk:(α:Type)→Nat→α→List α) (N:Nat) (s0:St→Option (Y3×Y7)) (v):(flocR (Ez17 me mk) Tz17 6 N Tryz.f44 (Pz17 me) y [.call 10 1 80] 0 nowhereR) s0 (ez17_0 v)=himage_reader_typeOfTable_0 me y mk (fun v=>s0 (ez17_0 v)) v:=by kernel_rfl
theorem bz17_0 (me:Y10→Y9→Option (Y3×Y7)) (y:Y9) (mk:(α:Type)→Nat→α→List α) (N:Nat) (s0:St→Option (Y3×Y7)) (v):(flocR (Ez17 me mk) Tz17 6 N Tryz.f44 (Pz17 me) y [.call 10 1 80] 0 nowhereR) s0 (ez17_0 v)=gimage_reader_typeOfTable_0 me y mk N (fun v=>s0 (ez17_0 v)) v:=kz17_0 me y mk N s0 v
def nimage_reader_typeOfTable (me:Y10→Y9→Option (Y3×Y7)) (y:Y9) (mk:(α:Type)→Nat→α→List α) (loop0:Y29→Option (Y3×Y7)) (x:Y10):Option (Y3×Y7):=
 ((cimage_reader_kind ((),()) (y.1,())).bind fun x1=>(let x2:Y7:=(x1.2,((0:Int),((0:Int),(([]:Y12),()))));(bif (x2.1==(4:Int)) then (bif (x2.1==(4:Int)) then ((cimage_reader_number ((),((32:Int),())) (x1.1,())).bind fun x3=>(some (x3.1,(x2.1,(x3.2,x2.2.2))))) else (bif (x2.1==(6:Int)) then ((cimage_reader_number ((),((32:Int),())) (x1.1,())).bind fun x4=>((cimage_reader_number ((),((16:Int),())) (x4.1,())).bind fun x5=>(let x6:Y7:=((x2.1,(x4.2,x2.2.2)).1,((x2.1,(x4.2,x2.2.2)).2.1,(x5.2,(x2.1,(x4.2,x2.2.2)).2.2.2)));(some (x5.1,x6))))) else (bif (x2.1==(5:Int)) then ((cimage_reader_number ((),((8:Int),())) (x1.1,())).bind fun x7=>(bif (decide (0≤x7.2)&&(decide (x7.2≤x7.2)&&(decide (x7.2≤68719476736)&&true))) then (let x8:Y12:=(mk Y1 (Int.toNat x7.2) (([]:List Int),((0:Int),())));(loop0 ((List.length x8:Int),(0:Int),x7.1,x8,(0:Int),(0:Int),(0:Int),(),([]:List Y1),x2))) else none)) else (some (x1.1,x2))))) else (bif (x2.1==(7:Int)) then ((cimage_reader_number ((),((32:Int),())) (x1.1,())).bind fun x12=>(some (x12.1,(x2.1,(x12.2,x2.2.2))))) else (bif (x2.1==(6:Int)) then ((cimage_reader_number ((),((32:Int),())) (x1.1,())).bind fun x13=>((cimage_reader_number ((),((16:Int),())) (x13.1,())).bind fun x14=>(let x15:Y7:=((x2.1,(x13.2,x2.2.2)).1,((x2.1,(x13.2,x2.2.2)).2.1,(x14.2,(x2.1,(x13.2,x2.2.2)).2.2.2)));(some (x14.1,x15))))) else (bif (x2.1==(5:Int)) then ((cimage_reader_number ((),((8:Int),())) (x1.1,())).bind fun x16=>(bif (decide (0≤x16.2)&&(decide (x16.2≤x16.2)&&(decide (x16.2≤68719476736)&&true))) then (let x17:Y12:=(mk Y1 (Int.toNat x16.2) (([]:List Int),((0:Int),())));(loop0 ((List.length x17:Int),(0:Int),x16.1,x17,(0:Int),(0:Int),(0:Int),(),([]:List Y1),x2))) else none)) else (some (x1.1,x2))))))))
def mimage_reader_typeOfTable (me:Y10→Y9→Option (Y3×Y7)) (y:Y9) (mk:(α:Type)→Nat→α→List α) (N:Nat) (x:Y10):Option (Y3×Y7):=nimage_reader_typeOfTable me y mk (iterV (gimage_reader_typeOfTable_0 me y mk N) N) x
theorem jz17 (me:Y10→Y9→Option (Y3×Y7)) (y:Y9) (mk:(α:Type)→Nat→α→List α) (N:Nat) (x:Y10):riseR (Ez17 me mk) Tz17 6 N Tryz.f44 (Pz17 me) x y=nimage_reader_typeOfTable me y mk (fun v=>iterR (flocR (Ez17 me mk) Tz17 6 N Tryz.f44 (Pz17 me) y [.call 10 1 80] 0 nowhereR) N (ez17_0 v)) x:=by kernel_rfl
theorem lz17 (me:Y10→Y9→Option (Y3×Y7)) (y:Y9) (mk:(α:Type)→Nat→α→List α) (N:Nat) (x:Y10):riseR (Ez17 me mk) Tz17 6 N Tryz.f44 (Pz17 me) x y=mimage_reader_typeOfTable me y mk N x:=(jz17 me y mk N x).trans (by rw [funext (iterR_eq ez17_0 (bz17_0 me y mk N) N)];rfl)
def rimage_reader_typeOfTable:Nat→Y10→Y9→Option (Y3×Y7)
 | 0,_,_=>none
 | k+1,x,y=>mimage_reader_typeOfTable (rimage_reader_typeOfTable k) y (fun _=>List.replicate) big x
def cimage_reader_typeOfTable (x:Y10) (y:Y9):Option (Y3×Y7):=rimage_reader_typeOfTable big x y
@[reducible] def Cz17:RecC:=Pz17 cimage_reader_typeOfTable
theorem Rz17:∀ k,RecOk Tryz.prog 44 (Pz17 (rimage_reader_typeOfTable k))
 | 0=>rec_none Tryz.func44 rfl (by decide)
 | k+1=>by
  have ih:=Rz17 k
  exact rec_of (E:=Ez17 (rimage_reader_typeOfTable k) (fun _=>List.replicate)) ⟨tabOk,fsNil2,fun _ _ _=>rfl,mixed,(inlCons (inlB_of Tryz.func80 rfl rfl (by kernel_rfl)) inlNil),rcsCons Lz7 (rcsCons Lz11 (rcsCons Lz16 (rcsCons ih rcsNil))),owsNil⟩ Tryz.func44 rfl (by decide) (by kernel_rfl) (by kernel_rfl) (by kernel_rfl) (fun x y r h=>⟨Tz17,6,big,(lz17 (rimage_reader_typeOfTable k) y (fun _=>List.replicate) big x).trans h⟩)
theorem Lz17:RecOk Tryz.prog 44 Cz17:=Rz17 big
@[reducible] def Pz19 (me:Y10→Y9→Option (Y3×Y6)):RecC:=⟨[.fix (.loc 0 [])],[.var Z7 (.hole Z7)],0,[.str],me⟩
noncomputable def Ez19 (me:Y10→Y9→Option (Y3×Y6)):Env2:={ tab:=tab,fs:=[],inl:=[],rcs:=[(82,Cz14),(46,Pz19 me)] }
def nimage_reader_text (me:Y10→Y9→Option (Y3×Y6)) (y:Y9) (x:Y10):Option (Y3×Y6):=
 ((cimage_reader_upTo ((),((64:Int),())) (y.1,())).bind fun x1=>(some (x1.1,x1.2)))
def mimage_reader_text (me:Y10→Y9→Option (Y3×Y6)) (y:Y9) (N:Nat) (x:Y10):Option (Y3×Y6):=nimage_reader_text me y x
theorem jz19 (me:Y10→Y9→Option (Y3×Y6)) (y:Y9) (N:Nat) (x:Y10):riseR (Ez19 me) Tz19 6 N Tryz.f46 (Pz19 me) x y=nimage_reader_text me y x:=by kernel_rfl
theorem lz19 (me:Y10→Y9→Option (Y3×Y6)) (y:Y9) (N:Nat) (x:Y10):riseR (Ez19 me) Tz19 6 N Tryz.f46 (Pz19 me) x y=mimage_reader_text me y N x:=(jz19 me y N x).trans rfl
def rimage_reader_text:Nat→Y10→Y9→Option (Y3×Y6)
 | 0,_,_=>none
 | k+1,x,y=>mimage_reader_text (rimage_reader_text k) y big x
def cimage_reader_text (x:Y10) (y:Y9):Option (Y3×Y6):=rimage_reader_text big x y
@[reducible] def Cz19:RecC:=Pz19 cimage_reader_text
theorem Rz19:∀ k,RecOk Tryz.prog 46 (Pz19 (rimage_reader_text k))
 | 0=>rec_none Tryz.func46 rfl (by decide)
 | k+1=>by
  have ih:=Rz19 k
  exact rec_of (E:=Ez19 (rimage_reader_text k)) ⟨tabOk,fsNil2,fun _ _ _=>rfl,mixed,inlNil,rcsCons Lz14 (rcsCons ih rcsNil),owsNil⟩ Tryz.func46 rfl (by decide) (by kernel_rfl) (by kernel_rfl) (by kernel_rfl) (fun x y r h=>⟨Tz19,6,big,(lz19 (rimage_reader_text k) y big x).trans h⟩)
theorem Lz19:RecOk Tryz.prog 46 Cz19:=Rz19 big
@[reducible] def Pz22 (me:Y10→Y9→Option Y19):RecC:=⟨[.fix (.loc 0 [])],[.var Z7 (.hole Z7)],0,[Z3],me⟩
noncomputable def Ez22 (me:Y10→Y9→Option Y19):Env2:={ tab:=tab,fs:=[(120,Gz21)],inl:=[(117,Tryz.f117,Tz6)],rcs:=[(84,Pz22 me)] }
def nimage_reader_signed (me:Y10→Y9→Option Y19) (y:Y9) (x:Y10):Option Y19:=
 ((cwire_Unsigned y.1.1).bind fun x1=>(bif (x1.1,y.1.2).2.1 then (let x2:Y3:=((x1.1,y.1.2).1,(true,(x1.1,y.1.2).2.2));(some (x2,x1.2.1))) else (let x3:Y3:=((x1.1,y.1.2).1,((x1.2.2 != (0:Int)),(x1.1,y.1.2).2.2));(some (x3,x1.2.1)))))
def mimage_reader_signed (me:Y10→Y9→Option Y19) (y:Y9) (N:Nat) (x:Y10):Option Y19:=nimage_reader_signed me y x
theorem jz22 (me:Y10→Y9→Option Y19) (y:Y9) (N:Nat) (x:Y10):riseR (Ez22 me) Tz22 6 N Tryz.f84 (Pz22 me) x y=nimage_reader_signed me y x:=by kernel_rfl
theorem lz22 (me:Y10→Y9→Option Y19) (y:Y9) (N:Nat) (x:Y10):riseR (Ez22 me) Tz22 6 N Tryz.f84 (Pz22 me) x y=mimage_reader_signed me y N x:=(jz22 me y N x).trans rfl
def rimage_reader_signed:Nat→Y10→Y9→Option Y19
 | 0,_,_=>none
 | k+1,x,y=>mimage_reader_signed (rimage_reader_signed k) y big x
def cimage_reader_signed (x:Y10) (y:Y9):Option Y19:=rimage_reader_signed big x y
@[reducible] def Cz22:RecC:=Pz22 cimage_reader_signed
theorem Rz22:∀ k,RecOk Tryz.prog 84 (Pz22 (rimage_reader_signed k))
 | 0=>rec_none Tryz.func84 rfl (by decide)
 | k+1=>by
  have ih:=Rz22 k
  exact rec_of (E:=Ez22 (rimage_reader_signed k)) ⟨tabOk,(fsCons2 Lz21 fsNil2),fun _ _ _=>rfl,mixed,(inlCons (inlB_of Tryz.func117 rfl rfl (by kernel_rfl)) inlNil),rcsCons ih rcsNil,owsNil⟩ Tryz.func84 rfl (by decide) (by kernel_rfl) (by kernel_rfl) (by kernel_rfl) (fun x y r h=>⟨Tz22,6,big,(lz22 (rimage_reader_signed k) y big x).trans h⟩)
theorem Lz22:RecOk Tryz.prog 84 Cz22:=Rz22 big
@[reducible] def Pz32 (me:Y10→Y9→Option (Y3×Y8)):RecC:=⟨[.fix (.loc 0 [])],[.var Z7 (.hole Z7)],0,[Z5],me⟩
noncomputable def Ez32 (me:Y10→Y9→Option (Y3×Y8)):Env2:={ tab:=tab,fs:=[(121,Gz31)],inl:=[(117,Tryz.f117,Tz6)],rcs:=[(86,Pz32 me)] }
def nimage_reader_instr (me:Y10→Y9→Option (Y3×Y8)) (y:Y9) (x:Y10):Option (Y3×Y8):=
 ((cops_Decode y.1.1).bind fun x1=>(bif (x1.1,y.1.2).2.1 then (let x2:Y3:=((x1.1,y.1.2).1,(true,(x1.1,y.1.2).2.2));(some (x2,x1.2.1))) else (let x3:Y3:=((x1.1,y.1.2).1,((x1.2.2 != (0:Int)),(x1.1,y.1.2).2.2));(some (x3,x1.2.1)))))
def mimage_reader_instr (me:Y10→Y9→Option (Y3×Y8)) (y:Y9) (N:Nat) (x:Y10):Option (Y3×Y8):=nimage_reader_instr me y x
theorem jz32 (me:Y10→Y9→Option (Y3×Y8)) (y:Y9) (N:Nat) (x:Y10):riseR (Ez32 me) Tz32 6 N Tryz.f86 (Pz32 me) x y=nimage_reader_instr me y x:=by kernel_rfl
theorem lz32 (me:Y10→Y9→Option (Y3×Y8)) (y:Y9) (N:Nat) (x:Y10):riseR (Ez32 me) Tz32 6 N Tryz.f86 (Pz32 me) x y=mimage_reader_instr me y N x:=(jz32 me y N x).trans rfl
def rimage_reader_instr:Nat→Y10→Y9→Option (Y3×Y8)
 | 0,_,_=>none
 | k+1,x,y=>mimage_reader_instr (rimage_reader_instr k) y big x
def cimage_reader_instr (x:Y10) (y:Y9):Option (Y3×Y8):=rimage_reader_instr big x y
@[reducible] def Cz32:RecC:=Pz32 cimage_reader_instr
theorem Rz32:∀ k,RecOk Tryz.prog 86 (Pz32 (rimage_reader_instr k))
 | 0=>rec_none Tryz.func86 rfl (by decide)
 | k+1=>by
  have ih:=Rz32 k
  exact rec_of (E:=Ez32 (rimage_reader_instr k)) ⟨tabOk,(fsCons2 Lz31 fsNil2),fun _ _ _=>rfl,mixed,(inlCons (inlB_of Tryz.func117 rfl rfl (by kernel_rfl)) inlNil),rcsCons ih rcsNil,owsNil⟩ Tryz.func86 rfl (by decide) (by kernel_rfl) (by kernel_rfl) (by kernel_rfl) (fun x y r h=>⟨Tz32,6,big,(lz32 (rimage_reader_instr k) y big x).trans h⟩)
theorem Lz32:RecOk Tryz.prog 86 Cz32:=Rz32 big
@[reducible] def Pz39 (me:Y13→Y9→Option (Y3×Y11)):RecC:=⟨[.fix (.loc 0 []),.hole Z3],[.var Z7 (.hole Z7)],0,[(.slice Z6)],me⟩
noncomputable def Ez39 (me:Y13→Y9→Option (Y3×Y11)):Env2:={ tab:=tab,fs:=[(122,Gz38)],inl:=[(117,Tryz.f117,Tz6)],rcs:=[(87,Pz39 me)] }
def nimage_reader_runs (me:Y13→Y9→Option (Y3×Y11)) (y:Y9) (x:Y13):Option (Y3×Y11):=
 ((ctables_Decode (y.1.1,x.2.1)).bind fun x1=>(bif (x1.1,y.1.2).2.1 then (let x2:Y3:=((x1.1,y.1.2).1,(true,(x1.1,y.1.2).2.2));(some (x2,x1.2.1))) else (let x3:Y3:=((x1.1,y.1.2).1,((x1.2.2 != (0:Int)),(x1.1,y.1.2).2.2));(some (x3,x1.2.1)))))
def mimage_reader_runs (me:Y13→Y9→Option (Y3×Y11)) (y:Y9) (N:Nat) (x:Y13):Option (Y3×Y11):=nimage_reader_runs me y x
theorem jz39 (me:Y13→Y9→Option (Y3×Y11)) (y:Y9) (N:Nat) (x:Y13):riseR (Ez39 me) Tz39 6 N Tryz.f87 (Pz39 me) x y=nimage_reader_runs me y x:=by kernel_rfl
theorem lz39 (me:Y13→Y9→Option (Y3×Y11)) (y:Y9) (N:Nat) (x:Y13):riseR (Ez39 me) Tz39 6 N Tryz.f87 (Pz39 me) x y=mimage_reader_runs me y N x:=(jz39 me y N x).trans rfl
def rimage_reader_runs:Nat→Y13→Y9→Option (Y3×Y11)
 | 0,_,_=>none
 | k+1,x,y=>mimage_reader_runs (rimage_reader_runs k) y big x
def cimage_reader_runs (x:Y13) (y:Y9):Option (Y3×Y11):=rimage_reader_runs big x y
@[reducible] def Cz39:RecC:=Pz39 cimage_reader_runs
theorem Rz39:∀ k,RecOk Tryz.prog 87 (Pz39 (rimage_reader_runs k))
 | 0=>rec_none Tryz.func87 rfl (by decide)
 | k+1=>by
  have ih:=Rz39 k
  exact rec_of (E:=Ez39 (rimage_reader_runs k)) ⟨tabOk,(fsCons2 Lz38 fsNil2),fun _ _ _=>rfl,mixed,(inlCons (inlB_of Tryz.func117 rfl rfl (by kernel_rfl)) inlNil),rcsCons ih rcsNil,owsNil⟩ Tryz.func87 rfl (by decide) (by kernel_rfl) (by kernel_rfl) (by kernel_rfl) (fun x y r h=>⟨Tz39,6,big,(lz39 (rimage_reader_runs k) y big x).trans h⟩)
theorem Lz39:RecOk Tryz.prog 87 Cz39:=Rz39 big
@[reducible] def Pz40 (me:Y10→Y9→Option Y21):RecC:=⟨[.fix (.loc 0 [])],[.var Z7 (.hole Z7)],0,[Z0],me⟩
noncomputable def Ez40 (me:Y10→Y9→Option Y21) (mk:(α:Type)→Nat→α→List α):Env2:={ tab:=tab,fs:=[],inl:=[(80,Tryz.f80,Tz12),(85,Tryz.f85,Tz23)],rep:=mk,rcs:=[(78,Cz7),(81,Cz16),(83,Cz15),(84,Cz22),(86,Cz32),(87,Cz39),(48,Pz40 me)] }
noncomputable def ez40_1 (v:Y22):St:={ s:=[(0,(.loc 0 [])),(2,(.clo 86 .unit)),(7,(.row 1)),(14,(.val ⟨Z3,v.1⟩)),(15,(.val ⟨Z3,v.2.1⟩))],l:=[(0,.var Z7 (.val ⟨Z7,v.2.2.1⟩)),(1,.row Z5 v.2.2.2.1),(2,.var Z0 (.pair (.val ⟨.str,v.2.2.2.2.1⟩) (.pair (.val ⟨Z3,v.2.2.2.2.2.1⟩) (.pair (.val ⟨Z3,v.2.2.2.2.2.2.1⟩) (.pair (.row 3) (.pair (.row 4) (.pair (.row 5) (.pair (.row 6) (.val ⟨.unit,v.2.2.2.2.2.2.2.1⟩))))))))),(3,.row Z8 v.2.2.2.2.2.2.2.2.1),(4,.row Z5 v.2.2.2.2.2.2.2.2.2.1),(5,.row Z6 v.2.2.2.2.2.2.2.2.2.2.1),(6,.row Z6 v.2.2.2.2.2.2.2.2.2.2.2.1),(7,.var Z0 (.pair (.val ⟨.str,v.2.2.2.2.2.2.2.2.2.2.2.2.1⟩) (.pair (.val ⟨Z3,v.2.2.2.2.2.2.2.2.2.2.2.2.2.1⟩) (.pair (.val ⟨Z3,v.2.2.2.2.2.2.2.2.2.2.2.2.2.2.1⟩) (.pair (.row 8) (.pair (.row 9) (.pair (.row 10) (.pair (.row 11) (.val ⟨.unit,v.2.2.2.2.2.2.2.2.2.2.2.2.2.2.2.1⟩))))))))),(8,.row Z8 v.2.2.2.2.2.2.2.2.2.2.2.2.2.2.2.2.1),(9,.row Z5 v.2.2.2.2.2.2.2.2.2.2.2.2.2.2.2.2.2.1),(10,.row Z6 v.2.2.2.2.2.2.2.2.2.2.2.2.2.2.2.2.2.2.1),(11,.row Z6 v.2.2.2.2.2.2.2.2.2.2.2.2.2.2.2.2.2.2.2)],k:=[(4096,[(0,(.loc 0 [])),(2,(.loc 2 [])),(3,(.loc 7 []))]),(0,[(0,(.loc 0 []))])],b:=16850944 }
noncomputable def ez40_0 (v:Y23):St:={ s:=[(0,(.loc 0 [])),(2,(.clo 81 .unit)),(7,(.row 1)),(14,(.val ⟨Z3,v.1⟩)),(15,(.val ⟨Z3,v.2.1⟩))],l:=[(0,.var Z7 (.val ⟨Z7,v.2.2.1⟩)),(1,.row Z8 v.2.2.2.1),(2,.var Z0 (.pair (.val ⟨.str,v.2.2.2.2.1⟩) (.pair (.val ⟨Z3,v.2.2.2.2.2.1⟩) (.pair (.val ⟨Z3,v.2.2.2.2.2.2.1⟩) (.pair (.row 3) (.pair (.row 4) (.pair (.row 5) (.pair (.row 6) (.val ⟨.unit,v.2.2.2.2.2.2.2.1⟩))))))))),(3,.row Z8 v.2.2.2.2.2.2.2.2.1),(4,.row Z5 v.2.2.2.2.2.2.2.2.2.1),(5,.row Z6 v.2.2.2.2.2.2.2.2.2.2.1),(6,.row Z6 v.2.2.2.2.2.2.2.2.2.2.2.1),(7,.var Z0 (.pair (.val ⟨.str,v.2.2.2.2.2.2.2.2.2.2.2.2.1⟩) (.pair (.val ⟨Z3,v.2.2.2.2.2.2.2.2.2.2.2.2.2.1⟩) (.pair (.val ⟨Z3,v.2.2.2.2.2.2.2.2.2.2.2.2.2.2.1⟩) (.pair (.row 8) (.pair (.row 9) (.pair (.row 10) (.pair (.row 11) (.val ⟨.unit,v.2.2.2.2.2.2.2.2.2.2.2.2.2.2.2.1⟩))))))))),(8,.row Z8 v.2.2.2.2.2.2.2.2.2.2.2.2.2.2.2.2.1),(9,.row Z5 v.2.2.2.2.2.2.2.2.2.2.2.2.2.2.2.2.2.1),(10,.row Z6 v.2.2.2.2.2.2.2.2.2.2.2.2.2.2.2.2.2.2.1),(11,.row Z6 v.2.2.2.2.2.2.2.2.2.2.2.2.2.2.2.2.2.2.2)],k:=[(4096,[(0,(.loc 0 [])),(2,(.loc 2 [])),(3,(.loc 7 []))]),(0,[(0,(.loc 0 []))])],b:=16838656 }
def himage_reader_function_1 (me:Y10→Y9→Option Y21) (y:Y9) (mk:(α:Type)→Nat→α→List α) (self0:Y23→Option Y21) (self1:Y22→Option Y21) (v:Y22):Option Y21:=
 (bif (decide (v.2.1 < v.1)) then ((cimage_reader_instr ((),()) (v.2.2.1,())).bind fun x11=>(bif (decide (0≤v.2.1)&&decide (v.2.1 < (List.length v.2.2.2.1:Int))) then (let x12:Y17:=(List.set v.2.2.2.1 (Int.toNat v.2.1) x11.2);(let x13:Int:=(IntKind.i64.wrap (v.2.1+(1:Int)));(self1 (v.1,x13,x11.1,x12,v.2.2.2.2.1,v.2.2.2.2.2.1,v.2.2.2.2.2.2.1,v.2.2.2.2.2.2.2.1,v.2.2.2.2.2.2.2.2.1,v.2.2.2.2.2.2.2.2.2.1,v.2.2.2.2.2.2.2.2.2.2.1,v.2.2.2.2.2.2.2.2.2.2.2.1,v.2.2.2.2.2.2.2.2.2.2.2.2.1,v.2.2.2.2.2.2.2.2.2.2.2.2.2.1,v.2.2.2.2.2.2.2.2.2.2.2.2.2.2.1,v.2.2.2.2.2.2.2.2.2.2.2.2.2.2.2.1,v.2.2.2.2.2.2.2.2.2.2.2.2.2.2.2.2.1,v.2.2.2.2.2.2.2.2.2.2.2.2.2.2.2.2.2.1,v.2.2.2.2.2.2.2.2.2.2.2.2.2.2.2.2.2.2.1,v.2.2.2.2.2.2.2.2.2.2.2.2.2.2.2.2.2.2.2)))) else none)) else ((cimage_reader_runs ((),((List.length v.2.2.2.1:Int),())) (v.2.2.1,())).bind fun x14=>((cimage_reader_runs ((),((List.length v.2.2.2.1:Int),())) (x14.1,())).bind fun x15=>(some (x15.1,(v.2.2.2.2.2.2.2.2.2.2.2.2.1,(v.2.2.2.2.2.2.2.2.2.2.2.2.2.1,(v.2.2.2.2.2.2.2.2.2.2.2.2.2.2.1,(v.2.2.2.2.2.2.2.2.2.2.2.2.2.2.2.2.1,(v.2.2.2.1,(x14.2,(x15.2,v.2.2.2.2.2.2.2.2.2.2.2.2.2.2.2.1))))))))))))
def gimage_reader_function_1 (me:Y10→Y9→Option Y21) (y:Y9) (mk:(α:Type)→Nat→α→List α) (N:Nat) (self0:Y23→Option Y21) (self1:Y22→Option Y21) (v:Y22):Option Y21:=himage_reader_function_1 me y mk self0 self1 v
theorem kz40_1 (me:Y10→Y9→Option Y21) (y:Y9) (mk:(α:Type)→Nat→α→List α) (N:Nat) (s0:St→Option Y21) (s1:St→Option Y21) (v):(flocR (Ez40 me mk) Tz40 6 N Tryz.f48 (Pz40 me) y [.call 6 1 85] 0 nowhereR) s1 (ez40_1 v)=himage_reader_function_1 me y mk (fun v=>s0 (ez40_0 v)) (fun v=>s1 (ez40_1 v)) v:=by kernel_rfl
theorem bz40_1 (me:Y10→Y9→Option Y21) (y:Y9) (mk:(α:Type)→Nat→α→List α) (N:Nat) (s0:St→Option Y21) (s1:St→Option Y21) (v):(flocR (Ez40 me mk) Tz40 6 N Tryz.f48 (Pz40 me) y [.call 6 1 85] 0 nowhereR) s1 (ez40_1 v)=gimage_reader_function_1 me y mk N (fun v=>s0 (ez40_0 v)) (fun v=>s1 (ez40_1 v)) v:=kz40_1 me y mk N s0 s1 v
def himage_reader_function_0 (me:Y10→Y9→Option Y21) (y:Y9) (mk:(α:Type)→Nat→α→List α) (loop1:Y22→Option Y21) (self0:Y23→Option Y21) (v:Y23):Option Y21:=
 (bif (decide (v.2.1 < v.1)) then ((cimage_reader_field ((),()) (v.2.2.1,())).bind fun x6=>(bif (decide (0≤v.2.1)&&decide (v.2.1 < (List.length v.2.2.2.1:Int))) then (let x7:Y12:=(List.set v.2.2.2.1 (Int.toNat v.2.1) x6.2);(let x8:Int:=(IntKind.i64.wrap (v.2.1+(1:Int)));(self0 (v.1,x8,x6.1,x7,v.2.2.2.2.1,v.2.2.2.2.2.1,v.2.2.2.2.2.2.1,v.2.2.2.2.2.2.2.1,v.2.2.2.2.2.2.2.2.1,v.2.2.2.2.2.2.2.2.2.1,v.2.2.2.2.2.2.2.2.2.2.1,v.2.2.2.2.2.2.2.2.2.2.2.1,v.2.2.2.2.2.2.2.2.2.2.2.2.1,v.2.2.2.2.2.2.2.2.2.2.2.2.2.1,v.2.2.2.2.2.2.2.2.2.2.2.2.2.2.1,v.2.2.2.2.2.2.2.2.2.2.2.2.2.2.2.1,v.2.2.2.2.2.2.2.2.2.2.2.2.2.2.2.2.1,v.2.2.2.2.2.2.2.2.2.2.2.2.2.2.2.2.2.1,v.2.2.2.2.2.2.2.2.2.2.2.2.2.2.2.2.2.2.1,v.2.2.2.2.2.2.2.2.2.2.2.2.2.2.2.2.2.2.2)))) else none)) else ((cimage_reader_number ((),((200:Int),())) (v.2.2.1,())).bind fun x9=>(bif (decide (0≤x9.2)&&(decide (x9.2≤x9.2)&&(decide (x9.2≤68719476736)&&true))) then (let x10:Y17:=(mk Y8 (Int.toNat x9.2) ((0:Int),((0:Int),((0:Int),((0:Int),())))));(loop1 ((List.length x10:Int),(0:Int),x9.1,x10,v.2.2.2.2.1,v.2.2.2.2.2.1,v.2.2.2.2.2.2.1,v.2.2.2.2.2.2.2.1,v.2.2.2.2.2.2.2.2.1,v.2.2.2.2.2.2.2.2.2.1,v.2.2.2.2.2.2.2.2.2.2.1,v.2.2.2.2.2.2.2.2.2.2.2.1,v.2.2.2.2.2.2.2.2.2.2.2.2.1,v.2.2.2.2.2.2.2.2.2.2.2.2.2.1,v.2.2.2.2.2.2.2.2.2.2.2.2.2.2.1,v.2.2.2.2.2.2.2.2.2.2.2.2.2.2.2.1,v.2.2.2.1,v.2.2.2.2.2.2.2.2.2.2.2.2.2.2.2.2.2.1,v.2.2.2.2.2.2.2.2.2.2.2.2.2.2.2.2.2.2.1,v.2.2.2.2.2.2.2.2.2.2.2.2.2.2.2.2.2.2.2))) else none)))
def gimage_reader_function_0 (me:Y10→Y9→Option Y21) (y:Y9) (mk:(α:Type)→Nat→α→List α) (N:Nat) (self0:Y23→Option Y21) (v:Y23):Option Y21:=himage_reader_function_0 me y mk (iterV (gimage_reader_function_1 me y mk N self0) N) self0 v
theorem kz40_0 (me:Y10→Y9→Option Y21) (y:Y9) (mk:(α:Type)→Nat→α→List α) (N:Nat) (s0:St→Option Y21) (v):(flocR (Ez40 me mk) Tz40 6 N Tryz.f48 (Pz40 me) y [.call 5 1 80] 0 nowhereR) s0 (ez40_0 v)=himage_reader_function_0 me y mk (fun v=>iterR (flocR (Ez40 me mk) Tz40 6 N Tryz.f48 (Pz40 me) y [.call 6 1 85] 0 nowhereR) N (ez40_1 v)) (fun v=>s0 (ez40_0 v)) v:=by kernel_rfl
theorem bz40_0 (me:Y10→Y9→Option Y21) (y:Y9) (mk:(α:Type)→Nat→α→List α) (N:Nat) (s0:St→Option Y21) (v):(flocR (Ez40 me mk) Tz40 6 N Tryz.f48 (Pz40 me) y [.call 5 1 80] 0 nowhereR) s0 (ez40_0 v)=gimage_reader_function_0 me y mk N (fun v=>s0 (ez40_0 v)) v:=(kz40_0 me y mk N s0 v).trans (by rw [funext (iterR_eq ez40_1 (bz40_1 me y mk N s0) N)];rfl)
def nimage_reader_function (me:Y10→Y9→Option Y21) (y:Y9) (mk:(α:Type)→Nat→α→List α) (loop0:Y23→Option Y21) (x:Y10):Option Y21:=
 ((cimage_reader_name ((),()) (y.1,())).bind fun x1=>((cimage_reader_number ((),((16:Int),())) (x1.1,())).bind fun x2=>((cimage_reader_signed ((),()) (x2.1,())).bind fun x3=>((cimage_reader_number ((),((16:Int),())) (x3.1,())).bind fun x4=>(bif (decide (0≤x4.2)&&(decide (x4.2≤x4.2)&&(decide (x4.2≤68719476736)&&true))) then (let x5:Y12:=(mk Y1 (Int.toNat x4.2) (([]:List Int),((0:Int),())));(loop0 ((List.length x5:Int),(0:Int),x4.1,x5,([]:List Int),(0:Int),(0:Int),(),([]:List Y1),([]:List Y8),([]:List Y5),([]:List Y5),x1.2,x2.2,x3.2,(),([]:List Y1),([]:List Y8),([]:List Y5),([]:List Y5)))) else none)))))
def mimage_reader_function (me:Y10→Y9→Option Y21) (y:Y9) (mk:(α:Type)→Nat→α→List α) (N:Nat) (x:Y10):Option Y21:=nimage_reader_function me y mk (iterV (gimage_reader_function_0 me y mk N) N) x
theorem jz40 (me:Y10→Y9→Option Y21) (y:Y9) (mk:(α:Type)→Nat→α→List α) (N:Nat) (x:Y10):riseR (Ez40 me mk) Tz40 6 N Tryz.f48 (Pz40 me) x y=nimage_reader_function me y mk (fun v=>iterR (flocR (Ez40 me mk) Tz40 6 N Tryz.f48 (Pz40 me) y [.call 5 1 80] 0 nowhereR) N (ez40_0 v)) x:=by kernel_rfl
theorem lz40 (me:Y10→Y9→Option Y21) (y:Y9) (mk:(α:Type)→Nat→α→List α) (N:Nat) (x:Y10):riseR (Ez40 me mk) Tz40 6 N Tryz.f48 (Pz40 me) x y=mimage_reader_function me y mk N x:=(jz40 me y mk N x).trans (by rw [funext (iterR_eq ez40_0 (bz40_0 me y mk N) N)];rfl)
def rimage_reader_function:Nat→Y10→Y9→Option Y21
 | 0,_,_=>none
 | k+1,x,y=>mimage_reader_function (rimage_reader_function k) y (fun _=>List.replicate) big x
def cimage_reader_function (x:Y10) (y:Y9):Option Y21:=rimage_reader_function big x y
@[reducible] def Cz40:RecC:=Pz40 cimage_reader_function
theorem Rz40:∀ k,RecOk Tryz.prog 48 (Pz40 (rimage_reader_function k))
 | 0=>rec_none Tryz.func48 rfl (by decide)
 | k+1=>by
  have ih:=Rz40 k
  exact rec_of (E:=Ez40 (rimage_reader_function k) (fun _=>List.replicate)) ⟨tabOk,fsNil2,fun _ _ _=>rfl,mixed,(inlCons (inlB_of Tryz.func80 rfl rfl (by kernel_rfl)) (inlCons (inlB_of Tryz.func85 rfl rfl (by kernel_rfl)) inlNil)),rcsCons Lz7 (rcsCons Lz16 (rcsCons Lz15 (rcsCons Lz22 (rcsCons Lz32 (rcsCons Lz39 (rcsCons ih rcsNil)))))),owsNil⟩ Tryz.func48 rfl (by decide) (by kernel_rfl) (by kernel_rfl) (by kernel_rfl) (fun x y r h=>⟨Tz40,6,big,(lz40 (rimage_reader_function k) y (fun _=>List.replicate) big x).trans h⟩)
theorem Lz40:RecOk Tryz.prog 48 Cz40:=Rz40 big
noncomputable def Ez72 (mk:(α:Type)→Nat→α→List α):Env2:={ tab:=tab,fs:=[(29,Gz71)],inl:=[(28,Tryz.f28,Tz41),(43,Tryz.f43,Tz8),(45,Tryz.f45,Tz18),(47,Tryz.f47,Tz20)],rep:=mk,rcs:=[(44,Cz17),(46,Cz19),(48,Cz40),(78,Cz7)] }
noncomputable def ez72_2 (v:Y25):St:={ s:=[(0,(.loc 0 [])),(2,(.clo 48 .unit)),(7,(.row 1)),(14,(.val ⟨Z3,v.1⟩)),(15,(.val ⟨Z3,v.2.1⟩))],l:=[(0,.var Z7 (.val ⟨Z7,v.2.2.1⟩)),(1,.row Z0 v.2.2.2.1),(2,.var Z4 (.pair (.row 3) (.pair (.row 4) (.pair (.row 5) (.val ⟨.unit,v.2.2.2.2.1⟩))))),(3,.row Z1 v.2.2.2.2.2.1),(4,.row .str v.2.2.2.2.2.2.1),(5,.row Z0 v.2.2.2.2.2.2.2.1),(6,.var Z4 (.pair (.row 7) (.pair (.row 8) (.pair (.row 9) (.val ⟨.unit,v.2.2.2.2.2.2.2.2.1⟩))))),(7,.row Z1 v.2.2.2.2.2.2.2.2.2.1),(8,.row .str v.2.2.2.2.2.2.2.2.2.2.1),(9,.row Z0 v.2.2.2.2.2.2.2.2.2.2.2.1),(10,.var Z4 (.pair (.row 11) (.pair (.row 12) (.pair (.row 13) (.val ⟨.unit,v.2.2.2.2.2.2.2.2.2.2.2.2.1⟩))))),(11,.row Z1 v.2.2.2.2.2.2.2.2.2.2.2.2.2.1),(12,.row .str v.2.2.2.2.2.2.2.2.2.2.2.2.2.2.1),(13,.row Z0 v.2.2.2.2.2.2.2.2.2.2.2.2.2.2.2.1)],k:=[(16834560,[(2,(.loc 2 [])),(3,(.loc 6 []))]),(4096,[(0,(.val ⟨Z9,v.2.2.2.2.2.2.2.2.2.2.2.2.2.2.2.2⟩)),(2,(.loc 10 [])),(4,(.loc 0 []))])],b:=68954406912 }
noncomputable def ez72_1 (v:Y26):St:={ s:=[(0,(.loc 0 [])),(2,(.clo 46 .unit)),(7,(.row 1)),(14,(.val ⟨Z3,v.1⟩)),(15,(.val ⟨Z3,v.2.1⟩))],l:=[(0,.var Z7 (.val ⟨Z7,v.2.2.1⟩)),(1,.row .str v.2.2.2.1),(2,.var Z4 (.pair (.row 3) (.pair (.row 4) (.pair (.row 5) (.val ⟨.unit,v.2.2.2.2.1⟩))))),(3,.row Z1 v.2.2.2.2.2.1),(4,.row .str v.2.2.2.2.2.2.1),(5,.row Z0 v.2.2.2.2.2.2.2.1),(6,.var Z4 (.pair (.row 7) (.pair (.row 8) (.pair (.row 9) (.val ⟨.unit,v.2.2.2.2.2.2.2.2.1⟩))))),(7,.row Z1 v.2.2.2.2.2.2.2.2.2.1),(8,.row .str v.2.2.2.2.2.2.2.2.2.2.1),(9,.row Z0 v.2.2.2.2.2.2.2.2.2.2.2.1),(10,.var Z4 (.pair (.row 11) (.pair (.row 12) (.pair (.row 13) (.val ⟨.unit,v.2.2.2.2.2.2.2.2.2.2.2.2.1⟩))))),(11,.row Z1 v.2.2.2.2.2.2.2.2.2.2.2.2.2.1),(12,.row .str v.2.2.2.2.2.2.2.2.2.2.2.2.2.2.1),(13,.row Z0 v.2.2.2.2.2.2.2.2.2.2.2.2.2.2.2.1)],k:=[(16834560,[(0,(.loc 0 [])),(2,(.loc 2 [])),(3,(.loc 6 []))]),(4096,[(0,(.val ⟨Z9,v.2.2.2.2.2.2.2.2.2.2.2.2.2.2.2.2⟩)),(2,(.loc 10 [])),(4,(.loc 0 []))])],b:=68954394624 }
noncomputable def ez72_0 (v:Y27):St:={ s:=[(0,(.loc 0 [])),(2,(.clo 44 .unit)),(7,(.row 1)),(14,(.val ⟨Z3,v.1⟩)),(15,(.val ⟨Z3,v.2.1⟩))],l:=[(0,.var Z7 (.val ⟨Z7,v.2.2.1⟩)),(1,.row Z1 v.2.2.2.1),(2,.var Z4 (.pair (.row 3) (.pair (.row 4) (.pair (.row 5) (.val ⟨.unit,v.2.2.2.2.1⟩))))),(3,.row Z1 v.2.2.2.2.2.1),(4,.row .str v.2.2.2.2.2.2.1),(5,.row Z0 v.2.2.2.2.2.2.2.1),(6,.var Z4 (.pair (.row 7) (.pair (.row 8) (.pair (.row 9) (.val ⟨.unit,v.2.2.2.2.2.2.2.2.1⟩))))),(7,.row Z1 v.2.2.2.2.2.2.2.2.2.1),(8,.row .str v.2.2.2.2.2.2.2.2.2.2.1),(9,.row Z0 v.2.2.2.2.2.2.2.2.2.2.2.1),(10,.var Z4 (.pair (.row 11) (.pair (.row 12) (.pair (.row 13) (.val ⟨.unit,v.2.2.2.2.2.2.2.2.2.2.2.2.1⟩))))),(11,.row Z1 v.2.2.2.2.2.2.2.2.2.2.2.2.2.1),(12,.row .str v.2.2.2.2.2.2.2.2.2.2.2.2.2.2.1),(13,.row Z0 v.2.2.2.2.2.2.2.2.2.2.2.2.2.2.2.1)],k:=[(16834560,[(0,(.loc 0 [])),(2,(.loc 2 [])),(3,(.loc 6 []))]),(4096,[(0,(.val ⟨Z9,v.2.2.2.2.2.2.2.2.2.2.2.2.2.2.2.2⟩)),(2,(.loc 10 [])),(4,(.loc 0 []))])],b:=68954382336 }
def himage_Decode_2 (mk:(α:Type)→Nat→α→List α) (self0:Y27→Option Y18) (self1:Y26→Option Y18) (self2:Y25→Option Y18) (v:Y25):Option Y18:=
 (bif (decide (v.2.1 < v.1)) then ((cimage_reader_function ((),()) (v.2.2.1,())).bind fun x15=>(bif (decide (0≤v.2.1)&&decide (v.2.1 < (List.length v.2.2.2.1:Int))) then (let x16:Y14:=(List.set v.2.2.2.1 (Int.toNat v.2.1) x15.2);(let x17:Int:=(IntKind.i64.wrap (v.2.1+(1:Int)));(self2 (v.1,x17,x15.1,x16,v.2.2.2.2.1,v.2.2.2.2.2.1,v.2.2.2.2.2.2.1,v.2.2.2.2.2.2.2.1,v.2.2.2.2.2.2.2.2.1,v.2.2.2.2.2.2.2.2.2.1,v.2.2.2.2.2.2.2.2.2.2.1,v.2.2.2.2.2.2.2.2.2.2.2.1,v.2.2.2.2.2.2.2.2.2.2.2.2.1,v.2.2.2.2.2.2.2.2.2.2.2.2.2.1,v.2.2.2.2.2.2.2.2.2.2.2.2.2.2.1,v.2.2.2.2.2.2.2.2.2.2.2.2.2.2.2.1,v.2.2.2.2.2.2.2.2.2.2.2.2.2.2.2.2)))) else none)) else (bif v.2.2.1.2.1 then (let x18:Y4:=(([]:Y2),(([]:Y15),(([]:Y14),())));(some (x18,(12:Int)))) else (bif (v.2.2.1.1.2.1 != (List.length v.2.2.2.2.2.2.2.2.2.2.2.2.2.2.2.2:Int)) then (let x19:Y4:=(([]:Y2),(([]:Y15),(([]:Y14),())));(some (x19,(12:Int)))) else ((cimage_isValid (v.2.2.2.2.2.2.2.2.2.1,(v.2.2.2.2.2.2.2.2.2.2.1,(v.2.2.2.1,v.2.2.2.2.2.2.2.2.1)))).bind fun x20=>(bif (!x20) then (let x21:Y4:=(([]:Y2),(([]:Y15),(([]:Y14),())));(some (x21,(12:Int)))) else (some ((v.2.2.2.2.2.2.2.2.2.1,(v.2.2.2.2.2.2.2.2.2.2.1,(v.2.2.2.1,v.2.2.2.2.2.2.2.2.1))),(0:Int))))))))
def gimage_Decode_2 (mk:(α:Type)→Nat→α→List α) (N:Nat) (self0:Y27→Option Y18) (self1:Y26→Option Y18) (self2:Y25→Option Y18) (v:Y25):Option Y18:=himage_Decode_2 mk self0 self1 self2 v
theorem kz72_2 (mk:(α:Type)→Nat→α→List α) (N:Nat) (s0:St→Option Y18) (s1:St→Option Y18) (s2:St→Option Y18) (v):(floc (Ez72 mk) Tz72 6 N Tryz.f13 [Z4,Z3] [false,false] [.call 4 0 28,.call 4 1 47] 0 nowhereR) s2 (ez72_2 v)=himage_Decode_2 mk (fun v=>s0 (ez72_0 v)) (fun v=>s1 (ez72_1 v)) (fun v=>s2 (ez72_2 v)) v:=by kernel_rfl
theorem bz72_2 (mk:(α:Type)→Nat→α→List α) (N:Nat) (s0:St→Option Y18) (s1:St→Option Y18) (s2:St→Option Y18) (v):(floc (Ez72 mk) Tz72 6 N Tryz.f13 [Z4,Z3] [false,false] [.call 4 0 28,.call 4 1 47] 0 nowhereR) s2 (ez72_2 v)=gimage_Decode_2 mk N (fun v=>s0 (ez72_0 v)) (fun v=>s1 (ez72_1 v)) (fun v=>s2 (ez72_2 v)) v:=kz72_2 mk N s0 s1 s2 v
def himage_Decode_1 (mk:(α:Type)→Nat→α→List α) (loop2:Y25→Option Y18) (self0:Y27→Option Y18) (self1:Y26→Option Y18) (v:Y26):Option Y18:=
 (bif (decide (v.2.1 < v.1)) then ((cimage_reader_text ((),()) (v.2.2.1,())).bind fun x10=>(bif (decide (0≤v.2.1)&&decide (v.2.1 < (List.length v.2.2.2.1:Int))) then (let x11:Y15:=(List.set v.2.2.2.1 (Int.toNat v.2.1) x10.2);(let x12:Int:=(IntKind.i64.wrap (v.2.1+(1:Int)));(self1 (v.1,x12,x10.1,x11,v.2.2.2.2.1,v.2.2.2.2.2.1,v.2.2.2.2.2.2.1,v.2.2.2.2.2.2.2.1,v.2.2.2.2.2.2.2.2.1,v.2.2.2.2.2.2.2.2.2.1,v.2.2.2.2.2.2.2.2.2.2.1,v.2.2.2.2.2.2.2.2.2.2.2.1,v.2.2.2.2.2.2.2.2.2.2.2.2.1,v.2.2.2.2.2.2.2.2.2.2.2.2.2.1,v.2.2.2.2.2.2.2.2.2.2.2.2.2.2.1,v.2.2.2.2.2.2.2.2.2.2.2.2.2.2.2.1,v.2.2.2.2.2.2.2.2.2.2.2.2.2.2.2.2)))) else none)) else ((cimage_reader_number ((),((32:Int),())) (v.2.2.1,())).bind fun x13=>(bif (decide (0≤x13.2)&&(decide (x13.2≤x13.2)&&(decide (x13.2≤68719476736)&&true))) then (let x14:Y14:=(mk Y0 (Int.toNat x13.2) (([]:List Int),((0:Int),((0:Int),(([]:Y12),(([]:Y17),(([]:Y11),(([]:Y11),()))))))));(loop2 ((List.length x14:Int),(0:Int),x13.1,x14,v.2.2.2.2.1,v.2.2.2.2.2.1,v.2.2.2.2.2.2.1,v.2.2.2.2.2.2.2.1,v.2.2.2.2.2.2.2.2.1,v.2.2.2.2.2.2.2.2.2.1,v.2.2.2.1,v.2.2.2.2.2.2.2.2.2.2.2.1,v.2.2.2.2.2.2.2.2.2.2.2.2.1,v.2.2.2.2.2.2.2.2.2.2.2.2.2.1,v.2.2.2.2.2.2.2.2.2.2.2.2.2.2.1,v.2.2.2.2.2.2.2.2.2.2.2.2.2.2.2.1,v.2.2.2.2.2.2.2.2.2.2.2.2.2.2.2.2))) else none)))
def gimage_Decode_1 (mk:(α:Type)→Nat→α→List α) (N:Nat) (self0:Y27→Option Y18) (self1:Y26→Option Y18) (v:Y26):Option Y18:=himage_Decode_1 mk (iterV (gimage_Decode_2 mk N self0 self1) N) self0 self1 v
theorem kz72_1 (mk:(α:Type)→Nat→α→List α) (N:Nat) (s0:St→Option Y18) (s1:St→Option Y18) (v):(floc (Ez72 mk) Tz72 6 N Tryz.f13 [Z4,Z3] [false,false] [.call 4 0 28,.call 3 1 45] 0 nowhereR) s1 (ez72_1 v)=himage_Decode_1 mk (fun v=>iterR (floc (Ez72 mk) Tz72 6 N Tryz.f13 [Z4,Z3] [false,false] [.call 4 0 28,.call 4 1 47] 0 nowhereR) N (ez72_2 v)) (fun v=>s0 (ez72_0 v)) (fun v=>s1 (ez72_1 v)) v:=by kernel_rfl
theorem bz72_1 (mk:(α:Type)→Nat→α→List α) (N:Nat) (s0:St→Option Y18) (s1:St→Option Y18) (v):(floc (Ez72 mk) Tz72 6 N Tryz.f13 [Z4,Z3] [false,false] [.call 4 0 28,.call 3 1 45] 0 nowhereR) s1 (ez72_1 v)=gimage_Decode_1 mk N (fun v=>s0 (ez72_0 v)) (fun v=>s1 (ez72_1 v)) v:=(kz72_1 mk N s0 s1 v).trans (by rw [funext (iterR_eq ez72_2 (bz72_2 mk N s0 s1) N)];rfl)
def himage_Decode_0 (mk:(α:Type)→Nat→α→List α) (loop1:Y26→Option Y18) (self0:Y27→Option Y18) (v:Y27):Option Y18:=
 (bif (decide (v.2.1 < v.1)) then ((cimage_reader_typeOfTable ((),()) (v.2.2.1,())).bind fun x5=>(bif (decide (0≤v.2.1)&&decide (v.2.1 < (List.length v.2.2.2.1:Int))) then (let x6:Y2:=(List.set v.2.2.2.1 (Int.toNat v.2.1) x5.2);(let x7:Int:=(IntKind.i64.wrap (v.2.1+(1:Int)));(self0 (v.1,x7,x5.1,x6,v.2.2.2.2.1,v.2.2.2.2.2.1,v.2.2.2.2.2.2.1,v.2.2.2.2.2.2.2.1,v.2.2.2.2.2.2.2.2.1,v.2.2.2.2.2.2.2.2.2.1,v.2.2.2.2.2.2.2.2.2.2.1,v.2.2.2.2.2.2.2.2.2.2.2.1,v.2.2.2.2.2.2.2.2.2.2.2.2.1,v.2.2.2.2.2.2.2.2.2.2.2.2.2.1,v.2.2.2.2.2.2.2.2.2.2.2.2.2.2.1,v.2.2.2.2.2.2.2.2.2.2.2.2.2.2.2.1,v.2.2.2.2.2.2.2.2.2.2.2.2.2.2.2.2)))) else none)) else ((cimage_reader_number ((),((32:Int),())) (v.2.2.1,())).bind fun x8=>(bif (decide (0≤x8.2)&&(decide (x8.2≤x8.2)&&(decide (x8.2≤68719476736)&&true))) then (let x9:Y15:=(mk Y6 (Int.toNat x8.2) ([]:List Int));(loop1 ((List.length x9:Int),(0:Int),x8.1,x9,v.2.2.2.2.1,v.2.2.2.2.2.1,v.2.2.2.2.2.2.1,v.2.2.2.2.2.2.2.1,v.2.2.2.2.2.2.2.2.1,v.2.2.2.1,v.2.2.2.2.2.2.2.2.2.2.1,v.2.2.2.2.2.2.2.2.2.2.2.1,v.2.2.2.2.2.2.2.2.2.2.2.2.1,v.2.2.2.2.2.2.2.2.2.2.2.2.2.1,v.2.2.2.2.2.2.2.2.2.2.2.2.2.2.1,v.2.2.2.2.2.2.2.2.2.2.2.2.2.2.2.1,v.2.2.2.2.2.2.2.2.2.2.2.2.2.2.2.2))) else none)))
def gimage_Decode_0 (mk:(α:Type)→Nat→α→List α) (N:Nat) (self0:Y27→Option Y18) (v:Y27):Option Y18:=himage_Decode_0 mk (iterV (gimage_Decode_1 mk N self0) N) self0 v
theorem kz72_0 (mk:(α:Type)→Nat→α→List α) (N:Nat) (s0:St→Option Y18) (v):(floc (Ez72 mk) Tz72 6 N Tryz.f13 [Z4,Z3] [false,false] [.call 4 0 28,.call 2 1 43] 0 nowhereR) s0 (ez72_0 v)=himage_Decode_0 mk (fun v=>iterR (floc (Ez72 mk) Tz72 6 N Tryz.f13 [Z4,Z3] [false,false] [.call 4 0 28,.call 3 1 45] 0 nowhereR) N (ez72_1 v)) (fun v=>s0 (ez72_0 v)) v:=by kernel_rfl
theorem bz72_0 (mk:(α:Type)→Nat→α→List α) (N:Nat) (s0:St→Option Y18) (v):(floc (Ez72 mk) Tz72 6 N Tryz.f13 [Z4,Z3] [false,false] [.call 4 0 28,.call 2 1 43] 0 nowhereR) s0 (ez72_0 v)=gimage_Decode_0 mk N (fun v=>s0 (ez72_0 v)) v:=(kz72_0 mk N s0 v).trans (by rw [funext (iterR_eq ez72_1 (bz72_1 mk N s0) N)];rfl)
def nimage_Decode (mk:(α:Type)→Nat→α→List α) (loop0:Y27→Option Y18) (x:Y6):Option Y18:=
 (bif (decide ((List.length x:Int) > (20000:Int))) then (let x1:Y4:=(([]:Y2),(([]:Y15),(([]:Y14),())));(some (x1,(4:Int)))) else (let x2:Y3:=((x,((0:Int),())),(false,()));((cimage_reader_number ((),((32:Int),())) (x2,())).bind fun x3=>(bif (decide (0≤x3.2)&&(decide (x3.2≤x3.2)&&(decide (x3.2≤68719476736)&&true))) then (let x4:Y2:=(mk Y7 (Int.toNat x3.2) ((0:Int),((0:Int),((0:Int),(([]:Y12),())))));(loop0 ((List.length x4:Int),(0:Int),x3.1,x4,(),([]:List Y7),([]:List Y6),([]:List Y0),(),([]:List Y7),([]:List Y6),([]:List Y0),(),([]:List Y7),([]:List Y6),([]:List Y0),x))) else none))))
def mimage_Decode (mk:(α:Type)→Nat→α→List α) (N:Nat) (x:Y6):Option Y18:=nimage_Decode mk (iterV (gimage_Decode_0 mk N) N) x
theorem jz72 (mk:(α:Type)→Nat→α→List α) (N:Nat) (x:Y6):rise (Ez72 mk) Tz72 6 N Tryz.f13 [Z9] [Z4,Z3] [false,false] x=nimage_Decode mk (fun v=>iterR (floc (Ez72 mk) Tz72 6 N Tryz.f13 [Z4,Z3] [false,false] [.call 4 0 28,.call 2 1 43] 0 nowhereR) N (ez72_0 v)) x:=by kernel_rfl
theorem lz72 (mk:(α:Type)→Nat→α→List α) (N:Nat) (x:Y6):rise (Ez72 mk) Tz72 6 N Tryz.f13 [Z9] [Z4,Z3] [false,false] x=mimage_Decode mk N x:=(jz72 mk N x).trans (by rw [funext (iterR_eq ez72_0 (bz72_0 mk N) N)];rfl)
def cimage_Decode (x:Y6):Option Y18:=mimage_Decode (fun _=>List.replicate) big x
def Gz72:Fn2:=⟨[Z9],[Z4,Z3],[false,false],fun x=>cimage_Decode x⟩
theorem Lz72:Rises Tryz.prog 13 Gz72:=rises_of (E:=Ez72 (fun _=>List.replicate)) ⟨tabOk,(fsCons2 Lz71 fsNil2),fun _ _ _=>rfl,mixed,(inlCons (inlB_of Tryz.func28 rfl rfl (by kernel_rfl)) (inlCons (inlB_of Tryz.func43 rfl rfl (by kernel_rfl)) (inlCons (inlB_of Tryz.func45 rfl rfl (by kernel_rfl)) (inlCons (inlB_of Tryz.func47 rfl rfl (by kernel_rfl)) inlNil)))),(rcsCons Lz17 (rcsCons Lz19 (rcsCons Lz40 (rcsCons Lz7 rcsNil)))),owsNil⟩ Tryz.func13 rfl (by decide) (by kernel_rfl) (by kernel_rfl) (by kernel_rfl) (by kernel_rfl) (fun x r _ h=>⟨Tz72,6,big,(lz72 (fun _=>List.replicate) big x).trans h⟩)
end Go.Proofs.YtlhnlcbcikbokaaGreatDoor
