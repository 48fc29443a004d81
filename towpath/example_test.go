package towpath_test

import (
	"fmt"

	"towpath/api"
	"towpath/towpath"
)

func ExampleMost() {
	f := api.Flow{Size: 2, Peak: 12, Burst: 6, Rate: 3, Due: 20}
	fmt.Println(towpath.Most(f, 8))
	fmt.Println(towpath.Most(api.Flow{}, 8))
	// Output:
	// 8 0
	// 0 1
}

func ExampleTest() {
	f := api.Flow{Size: 2, Peak: 12, Burst: 6, Rate: 3, Due: 20}
	g := api.Flow{Size: 8, Peak: 12, Burst: 8, Rate: 0, Due: 14}
	fmt.Println(towpath.Test([]api.Flow{f}))
	fmt.Println(towpath.Test([]api.Flow{g}))
	// Output:
	// 0 0
	// 14 3
}
